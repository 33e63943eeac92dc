/- FramesLeft. -/
import Derived.Test.YtaifchikjnnppaaQ10
namespace Go.Proofs.Ytaifchikjnnppaa
open Go.RowKit Go.Shelf
set_option linter.unusedVariables false
attribute [local go_sem] Oper.semAt_some

theorem left_out (A : Option Addr) (len c : Nat) (nn : Int) (l : List Part) (w : World) (hl : PartsAt w A len l) (hm : len ≤ 9223372036854775807) (h : fewR l = false ∨ (fewR l = true ∧ nn < 0)) : Calls Try.prog 7 #[.slice A len c, .int .i64 nn] w fun e w' => e = .returned (.bool true) ∧ Keeps [] w w' := by
  have HF := Lib.hid (fun w1 hk => few3_is A len c l w1 (hl.keep hk) hm)
  have b1 := Boxed.new ((w.alloc (.cells #[.slice A len c] 25)).alloc (.cells #[.int .i64 nn] 3)) 4 (.bool false)
  simp only [World.size_alloc] at b1
  have HB1 := Lib.hid b1
  have HK1 : Hid (Keeps [] w (((w.alloc (.cells #[.slice A len c] 25)).alloc (.cells #[.int .i64 nn] 3)).alloc (.cells #[.bool false] 4))) := (((Keeps.refl [] w).alloc _).alloc _).alloc _
  have c0 := (((Boxed.new w 25 (.slice A len c)).alloc (.cells #[.int .i64 nn] 3)).alloc (.cells #[.bool false] 4)).cell
  have c1 := ((Boxed.new (w.alloc (.cells #[.slice A len c] 25)) 3 (.int .i64 nn)).alloc (.cells #[.bool false] 4)).cell
  simp only [World.size_alloc] at c1
  clear hl b1
  rcases h with h | ⟨h, h3⟩
  all_goals
    rw [h] at HF
    go_enter Try.func7, Try.ntmps7
    go_wp2_with (go_at_call 12; refine (HF.out _ HK1.out).mono ?_; rintro e w2 ⟨rfl, rfl⟩)
    refine (known3_any _).mono ?_
    rintro e w2 ⟨rfl, hk2⟩
    have b2 := boxed_keeps HB1.out hk2
    have c2 := b2.cell
    have f2 := b2.frozen
    have HB2 := Lib.hid b2
    have HK2 := Lib.hid (HK1.out.trans' hk2)
    clear b2 hk2
    go_wp2_with fail
    refine bodyPost_ret (results_cell1 rfl _ _ rfl (fun w hc => load_var Try.isAgg4 w hc) (HB2.out.set (.bool true)).cell) rfl ?_
    exact ⟨rfl, HK2.out.setCell (.inr (by show w.heap.size ≤ w.heap.size + 1 + 1; omega)) _⟩

end Go.Proofs.Ytaifchikjnnppaa
