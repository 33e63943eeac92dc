/- Texts of one proof, laid together: N32 N33. -/
import Derived.Test.YtmgkejgmkfeccaaDoorM17
import Derived.Defers
import Derived.Test.YtmgkejgmkfeccaaDoorM11
/- dn: Parse; walked. -/
namespace Go.Proofs.YtmgkejgmkfeccaaDoor
open Go.RowKit Go.Shelf
set_option linter.unusedVariables false
set_option linter.unusedSimpArgs false
set_option maxRecDepth 100000

theorem results_tmp_cell {fn : Func} {p q : Tmp} {t : TypeId} (h : fn.results = #[.tmp p, .cell q t]) (tmps : Array Value) (w : World) (a : Nat) (u : Value)
    (hq : tmps.getD q undef = .pointer (some ⟨a, 0, none⟩)) (hl : (loadVar t ⟨a, 0, none⟩).run Tryd.prog w = .ok u w) : (results fn tmps).run Tryd.prog w = .ok (.tuple #[tmps.getD p undef, u]) w := by
  have hq' : tmps[q]?.getD undef = .pointer (some ⟨a, 0, none⟩) := by simpa using hq
  simp [results, h, hq', asAddr, hl, Sem.run_bind, Result.andThen]
theorem load_var {t : TypeId} {g : Nat} {v : Value} (hagg : ∀ w, (isAgg t).run Tryd.prog w = .ok false w) (w : World) (hc : w.cell? ⟨g, 0, none⟩ = some v) : (loadVar t ⟨g, 0, none⟩).run Tryd.prog w = .ok v w := by
  simp [loadVar, Sem.run_bind, hagg, hc, go_sem]
theorem DnIn.set1 {w X : World} {A : Option Addr} {n g : Nat} {d : List Part6} {t : TypeId} {x : Int} (h : DnIn w A n d) (hb : Box1 w g t (.int .i64 x)) (hk : Keeps [g] w X) : DnIn X A n d := by
  obtain ⟨h1, h2, h3⟩ := h
  refine ⟨h1, h2, fun hp => ?_⟩
  obtain ⟨b, o, rfl, hc⟩ := h3 hp
  refine ⟨b, o, rfl, fun i p hi => ?_⟩
  obtain ⟨c0, c1⟩ := hc i p hi
  have hbg : b ≠ g := fun e => by
    subst e
    rw [cell_of_blk hb] at c0 c1
    cases hk0 : o + i * 2 with
    | zero => rw [hk0] at c0; simp [tv] at c0
    | succ k => rw [hk0] at c0; simp at c0
  exact ⟨(hk.cell (lt_of_cell c0) (by simpa using hbg)).trans c0, (hk.cell (lt_of_cell c1) (by simpa using hbg)).trans c1⟩

/-- What Parse answers. -/
def ParQ (T : List UInt8) (w : World) (e : Ending) (w' : World) : Prop :=
  (∀ d, parseL T = some d → ∃ A n c, e = .returned (.tuple #[.slice A n c, .int .i64 0]) ∧ n ≤ 16 ∧ DnIn w' A n d) ∧ (parseL T = none → e = .returned (.tuple #[.slice none 0 0, .int .i64 160])) ∧ Keeps [] w w'

set_option maxHeartbeats 4000000 in
theorem parse_is (T : List UInt8) (w : World) (hl : T.length ≤ 1000000000) (hs : SynAt w) : Calls Tryd.prog 7 #[.string ⟨T.toArray⟩] w (ParQ T w) := by
  have hmf : ∀ (fn : Fn) (first cap : Array Value) (w : World), (Instr.makeFunc fn first cap).run Tryd.prog w = .ok (.func fn first cap) w := fun _ _ _ _ => rfl
  obtain ⟨W0, hW0⟩ : ∃ W0, w.alloc (.cells #[.int .i64 0] 25) = W0 := ⟨_, rfl⟩
  have hk0 : Keeps [] w W0 := by rw [← hW0]; exact (Keeps.refl [] w).alloc _
  have hb0 : Box1 W0 w.heap.size 25 (.int .i64 0) := by rw [← hW0]; exact heap_new8 w _
  have HB0 := Lib.hid hb0
  have HK0 := Lib.hid hk0
  have HN := Lib.hid (nameof6_is T W0 hl (hs.keep hk0 (by simp)))
  clear hk0 hb0 hl hs
  go_enter_defers Tryd.func7, Tryd.ntmps7
  go_wp2_with fail
  refine HN.out.mono ?_
  rintro e w3 ⟨hq1, hq2, hk3⟩
  have HB3 := Lib.hid (HB0.out.keep hk3 (by simp))
  have HK3 := Lib.hid hk3
  cases hp : parseL T with
  | none =>
    obtain rfl := hq2 hp
    have hc := HB3.out.cell
    have hz := HB3.out.free
    have HP := Lib.hid hp
    clear hq1 hq2 hk3 hp
    go_wp2_with fail
    refine leaves_cons (f := 18) (args := #[.pointer (some ⟨w.heap.size, 0, none⟩)]) (by simp) (by simp [go_sem]) ?_
    refine (parse_panicking w.heap.size 0 160 [] w3 hc hz).mono ?_
    rintro e u' w'' ⟨rfl, rfl, rfl⟩
    have hb4 := HB3.out.set (.int .i64 160)
    refine ⟨_, results_tmp_cell rfl _ _ w.heap.size _ rfl (load_var Tryd.isAgg25 _ hb4.cell), ⟨fun d h => ?_, fun _ => rfl, (HK0.out.trans' HK3.out).setCell (.inr (Nat.le_refl _)) _⟩⟩
    rw [HP.out] at h
    cases h
  | some d =>
    obtain ⟨A, n, c, rfl, hn, hd⟩ := hq1 d hp
    have hc := HB3.out.cell
    have hz := HB3.out.free
    have HP := Lib.hid hp
    have HD := Lib.hid hd
    have HN16 := Lib.hid hn
    clear hq1 hq2 hk3 hp hd hn
    go_wp2_with fail
    have hb4 := HB3.out.set (.int .i64 0)
    have hk4 : Keeps [w.heap.size] w3 (w3.setCell ⟨w.heap.size, 0, none⟩ (.int .i64 0)) := (Keeps.refl _ _).setCell (.inl (by simp)) _
    refine leaves_cons (f := 18) (args := #[.pointer (some ⟨w.heap.size, 0, none⟩)]) (by simp) (by simp [go_sem]) ?_
    refine (parse_idle w.heap.size 0 _ hb4.cell hb4.free).mono ?_
    rintro e u' w'' ⟨rfl, rfl, rfl⟩
    have hb5 := hb4.set (.int .i64 0)
    have hk5 : Keeps [w.heap.size] w3 ((w3.setCell ⟨w.heap.size, 0, none⟩ (.int .i64 0)).setCell ⟨w.heap.size, 0, none⟩ (.int .i64 0)) := hk4.setCell (.inl (by simp)) _
    refine ⟨_, results_tmp_cell rfl _ _ w.heap.size _ rfl (load_var Tryd.isAgg25 _ hb5.cell), ⟨fun d' h => ?_, fun h => ?_, (HK0.out.trans' HK3.out).trans hk5 (fun x hx => .inr (by simp at hx; subst hx; exact Nat.le_refl _))⟩⟩
    · rw [HP.out] at h
      injection h with h
      subst h
      exact ⟨A, n, c, rfl, HN16.out, HD.out.set1 HB3.out hk5⟩
    · rw [HP.out] at h
      cases h

end Go.Proofs.YtmgkejgmkfeccaaDoor
/- dn: what is known of a name with a comma in a value; walked. -/
namespace Go.Proofs.YtmgkejgmkfeccaaDoor
open Go.RowKit Go.Shelf
set_option linter.unusedVariables false
set_option linter.unusedSimpArgs false
set_option maxRecDepth 100000

theorem val_ann : valL 7 [65, 110, 110, 92, 44, 32, 66] = some [65, 110, 110, 44, 32, 66] := by
  rw [valL_yes, valL_yes, valL_yes, valL_bs_some (x := 44) (r' := [32, 66]), valL_yes, valL_yes, valL]
  all_goals first | rfl | decide +kernel
theorem val_people : valL 6 [112, 101, 111, 112, 108, 101] = some [112, 101, 111, 112, 108, 101] := by
  rw [valL_yes, valL_yes, valL_yes, valL_yes, valL_yes, valL_yes, valL]
  all_goals first | rfl | decide +kernel
def annD : List Part6 := [([99, 110], [65, 110, 110, 44, 32, 66]), ([111, 117], [112, 101, 111, 112, 108, 101])]
theorem parse_ann : parseL [67, 78, 61, 65, 110, 110, 92, 44, 32, 66, 44, 111, 117, 61, 112, 101, 111, 112, 108, 101] = some annD := by
  unfold parseL
  rw [if_neg (by simp)]
  rw [nameL_more (r1 := [65, 110, 110, 92, 44, 32, 66, 44, 111, 117, 61, 112, 101, 111, 112, 108, 101]) (r2 := [111, 117, 61, 112, 101, 111, 112, 108, 101]) (v := [65, 110, 110, 44, 32, 66]) (by decide +kernel) val_ann (by decide +kernel) (by decide +kernel)]
  rw [nameL_end (r1 := [112, 101, 111, 112, 108, 101]) (v := [112, 101, 111, 112, 108, 101]) (by decide +kernel) val_people (by decide +kernel) (by decide +kernel)]
  decide +kernel
theorem text_ann : dnT annD = [99, 110, 61, 65, 110, 110, 92, 44, 32, 66, 44, 111, 117, 61, 112, 101, 111, 112, 108, 101] := by decide +kernel
theorem ok_ann : nameOk annD = true := by decide +kernel

set_option maxHeartbeats 4000000 in
theorem known6_is (w : World) (hs : SynAt w) : Calls Tryd.prog 6 #[] w fun e w' => e = .returned (.bool true) ∧ Keeps [] w w' := by
  have HP := Lib.hid (parse_is [67, 78, 61, 65, 110, 110, 92, 44, 32, 66, 44, 111, 117, 61, 112, 101, 111, 112, 108, 101] w (by simp) hs)
  clear hs
  go_enter Tryd.func6, Tryd.ntmps6
  go_wp2_with fail
  refine HP.out.mono ?_
  rintro e w1 ⟨hq1, _, hk1⟩
  obtain ⟨A, n, c, rfl, hn, hd⟩ := hq1 annD parse_ann
  have hn2 : 2 = n := hd.1
  subst hn2
  have HT := Lib.hid (text_yes A 2 c annD w1 hd ok_ann)
  rw [text_ann] at HT
  have HK1 := Lib.hid hk1
  have HD := Lib.hid hd
  clear hk1 hq1 hd hn
  go_wp2_with fail
  refine HT.out.mono ?_
  rintro e w2 ⟨rfl, hk2⟩
  obtain ⟨b, o, rfl, hc⟩ := (HD.out.grow hk2).2.2 (by omega)
  obtain ⟨c0, c1⟩ := hc 0 ([99, 110], [65, 110, 110, 44, 32, 66]) rfl
  unfold tv at c0 c1
  simp only [Nat.zero_mul, Nat.add_zero] at c0 c1
  have HK2 := Lib.hid (HK1.out.trans' hk2)
  clear hk2 hc
  go_wp2_with fail
  go_ret
  exact ⟨rfl, HK2.out⟩

end Go.Proofs.YtmgkejgmkfeccaaDoor
