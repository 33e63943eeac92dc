/- FramesBehind: whatever stands behind frames, these are the first ones. -/
import Derived.Test.YtaifchikjnnppaaQ8
namespace Go.Proofs.Ytaifchikjnnppaa
open Go.RowKit Go.Shelf
set_option linter.unusedVariables false
attribute [local go_sem] Oper.semAt_some

/-- Frames under way: those of the first j records. -/
structure Bld (w wr : World) (v : Value) (l : List Part) (j : Nat) : Prop where
  own : wr.ownsRow w.heap.size 5 1 v (offs (rowOf (l.take j))) ((joinF (rowOf (l.take j))).map bv)
  keep : Keeps [] w wr

theorem Bld.next {w wr wa wb : World} {v u : Value} {l : List Part} {j : Nat} {x : Part} (h : Bld w wr v l j) (ht : l.take (j + 1) = l.take j ++ [x]) (hk : Keeps [] wr wa) (ho : wb.ownsRow w.heap.size 5 1 u (offs (rowOf (l.take j)) + (x.bs.length + 12)) ((joinF (rowOf (l.take j))).map bv ++ (frameOf x.bs).map bv)) (hg : wa.grownBy wb v.ownBlock) : Bld w wb u l (j + 1) := by
  refine ⟨?_, keeps_own (own_keep h.own hk (by simp)) (h.keep.trans' hk) hg⟩
  rw [ht]
  unfold rowOf at ho ⊢
  rw [List.map_append, List.map_cons, List.map_nil, offs_snoc, joinF_snoc, List.map_append]
  exact ho

theorem behind_out (A B : Option Addr) (len c m d : Nat) (l : List Part) (w : World) (hl : PartsAt w A len l) (hm : len ≤ 9223372036854775807) (hm2 : m ≤ 9223372036854775807) (h : fewR l = false ∨ (fewR l = true ∧ 300 < m)) : Calls Try.prog 8 #[.slice A len c, .slice B m d] w fun e w' => e = .returned (.bool true) ∧ Keeps [] w w' := by
  have HF := Lib.hid (fun w1 hk => few3_is A len c l w1 (hl.keep hk) hm)
  have b1 := Boxed.new (w.alloc (.cells #[.slice A len c] 25)) 4 (.bool false)
  rw [World.size_alloc] at b1
  have HB1 := Lib.hid b1
  have HK1 : Hid (Keeps [] w ((w.alloc (.cells #[.slice A len c] 25)).alloc (.cells #[.bool false] 4))) := ((Keeps.refl [] w).alloc _).alloc _
  clear hl b1
  rcases h with h | ⟨h, h3⟩
  all_goals
    rw [h] at HF
    go_enter Try.func8, Try.ntmps8
    go_wp2_with (go_at_call 12; refine (HF.out _ HK1.out).mono ?_; rintro e w2 ⟨rfl, rfl⟩)
    refine (known3_any _).mono ?_
    rintro e w2 ⟨rfl, hk2⟩
    have b2 := boxed_keeps HB1.out hk2
    have c2 := b2.cell
    have f2 := b2.frozen
    have HB2 := Lib.hid b2
    have HK2 := Lib.hid (HK1.out.trans' hk2)
    clear b2 hk2
    go_wp2_with fail
    refine bodyPost_ret (results_cell1 rfl _ _ rfl (fun w hc => load_var Try.isAgg4 w hc) (HB2.out.set (.bool true)).cell) rfl ?_
    exact ⟨rfl, HK2.out.setCell (.inr (by show w.heap.size ≤ w.heap.size + 1; omega)) _⟩

end Go.Proofs.Ytaifchikjnnppaa
