
/- entry: add, replace; walked. -/
import Derived.Test.YtmgkejgmkfeccaaGreatDoorW9
namespace Go.Proofs.YtmgkejgmkfeccaaGreatDoor
open Go.RowKit Go.Shelf
set_option linter.unusedVariables false
set_option linter.unusedSimpArgs false
set_option maxRecDepth 100000

/-- What a deed answers: Values in new memory, and an error. -/
def DeedQ (p : List Txt × Nat) (w : World) (e : Ending) (w' : World) : Prop :=
  ∃ A c, e = .returned (.tuple #[.slice A p.1.length c, .int .i64 (p.2 : Int)]) ∧ w'.ownsRow w.heap.size 9 1 (.slice A p.1.length c) p.1.length (p.1.map tv) ∧ Keeps [] w w'
theorem DeedQ.no {n : Nat} {w w' : World} (h : Keeps [] w w') : DeedQ ([], n) w (.returned (.tuple #[.slice none 0 0, .int .i64 (n : Int)])) w' := ⟨none, 0, rfl, World.ownsRow_nil _ _ _ _, h⟩
def addP (had told : List Txt) : List Txt × Nat := if (ordS (had ++ told)).length < (had ++ told).length then ([], 170) else (had ++ told, 0)
def replaceP (told : List Txt) : List Txt × Nat := (ordS told, 0)

theorem replace_is (V : Value) (A : Option Addr) (n c : Nat) (told : List Txt) (w : World) (h : StrsIn w A n told) (hn : n ≤ 1000000) :
    Calls Tryz.prog 82 #[V, .slice A n c] w (DeedQ (replaceP told) w) := by
  have HO := Lib.hid (ordered_is A n c told w h hn)
  unfold OrdQ at HO
  unfold replaceP
  obtain ⟨os, hos⟩ : ∃ os, ordS told = os := ⟨_, rfl⟩
  rw [hos] at HO ⊢
  clear h hos
  go_enter Tryz.func82, Tryz.ntmps82
  go_wp2_with fail
  refine HO.out.mono ?_
  rintro e w1 ⟨A1, c1, rfl, h1, h2⟩
  have H1 := Lib.hid h1
  have H2 := Lib.hid h2
  clear h1 h2
  go_wp2_with fail
  refine bodyPost_ret (results_tmp2 rfl _ _ _) rfl ?_
  exact ⟨A1, c1, rfl, H1.out, H2.out⟩

theorem two_rows (w : World) (x y : At7) (hx : StrsIn w x.A x.n x.vs) (hy : StrsIn w y.A y.n y.vs) : RowsIn (w.alloc (.cells #[.slice x.A x.n x.c, .slice y.A y.n y.c] 40)) w.heap.size [x, y] := by
  obtain ⟨⟨c0, c1⟩, _⟩ := blk2 (heap_new8 w (.cells #[.slice x.A x.n x.c, .slice y.A y.n y.c] 40))
  intro j z hz
  rcases j with _ | _ | j
  · simp at hz
    subst hz
    exact ⟨c0, StrsIn.grow ((Keeps.refl [] w).alloc _) hx⟩
  · simp at hz
    subst hz
    exact ⟨c1, StrsIn.grow ((Keeps.refl [] w).alloc _) hy⟩
  · simp at hz

set_option maxHeartbeats 4000000 in
theorem add_is (HA TA : Option Addr) (hn hc tn tc : Nat) (had told : List Txt) (w : World) (h1 : StrsIn w HA hn had) (h2 : StrsIn w TA tn told) (hb1 : hn ≤ 100000) (hb2 : tn ≤ 100000) :
    Calls Tryz.prog 80 #[.slice HA hn hc, .slice TA tn tc] w (DeedQ (addP had told) w) := by
  have hk0 : Keeps [] w (w.alloc (.cells #[.slice HA hn hc, .slice TA tn tc] 40)) := (Keeps.refl [] w).alloc _
  have hz0 : (w.alloc (.cells #[.slice HA hn hc, .slice TA tn tc] 40)).heap.size = w.heap.size + 1 := by simp
  have hCO := concats_is w.heap.size 2 [⟨[], HA, hn, hc, had⟩, ⟨[], TA, tn, tc, told⟩] (w.alloc (.cells #[.slice HA hn hc, .slice TA tn tc] 40)) rfl (by omega) (two_rows w ⟨[], HA, hn, hc, had⟩ ⟨[], TA, tn, tc, told⟩ h1 h2) (by simp [totS]; omega)
  have e1 : totS [⟨[], HA, hn, hc, had⟩, ⟨[], TA, tn, tc, told⟩] = hn + tn := by simp [totS]
  have e2 : flatS [⟨[], HA, hn, hc, had⟩, ⟨[], TA, tn, tc, told⟩] = had ++ told := by simp [flatS]
  rw [e1, e2] at hCO
  have HCO := Lib.hid hCO
  have HK0 := Lib.hid hk0
  obtain ⟨P, hP⟩ : ∃ P, addP had told = P := ⟨_, rfl⟩
  rw [hP]
  unfold addP at hP
  have hal : (had ++ told).length = hn + tn := by rw [List.length_append, h1.1, h2.1]
  have htx : ∀ s ∈ had ++ told, s.length ≤ 9223372036854775807 := fun s hs => by
    rcases List.mem_append.1 hs with hs | hs
    · exact h1.2.1 s hs
    · exact h2.2.1 s hs
  obtain ⟨all, hall⟩ : ∃ all, had ++ told = all := ⟨_, rfl⟩
  rw [hall] at hP HCO hal htx
  rw [hal] at hP
  have HTX := Lib.hid htx
  have HAL := Lib.hid hal
  have HP := Lib.hid hP
  obtain ⟨m, hm⟩ : ∃ m, hn + tn = m := ⟨_, rfl⟩
  rw [hm] at HCO HAL HP
  have hmb : m ≤ 1000000 := by omega
  clear hCO hk0 hP hal htx hall h1 h2 e1 e2 hm
  go_enter Tryz.func80, Tryz.ntmps80
  go_wp2_with fail
  refine HCO.out.mono ?_
  rintro e w1 ⟨B, d, rfl, hr1, hk1⟩
  have HR1 := Lib.hid hr1
  have HK1 := Lib.hid (HK0.out.trans' hk1)
  have HO := Lib.hid (ordered_is B m d all w1 (StrsIn.of_own hr1 HAL.out HTX.out) hmb)
  unfold OrdQ at HO
  obtain ⟨on, hon⟩ : ∃ on, (ordS all).length = on := ⟨_, rfl⟩
  rw [hon] at HO HP
  clear hr1 hk1 hon
  go_wp2_with fail
  refine HO.out.mono ?_
  rintro e w2 ⟨A2, c2, rfl, hr2, hk2⟩
  have HK2 := Lib.hid (HK1.out.trans' hk2)
  have HR2 : Hid (w2.ownsRow w.heap.size 9 1 (.slice B m d) m (all.map tv)) := own_base7 (own_keep HR1.out hk2 (by simp)) (by rw [hz0]; omega)
  clear hr2 hk2
  by_cases hlt : on < m
  · have hg : (on : Int) < (m : Int) := by omega
    have HPE : Hid (P = ([], 170)) := by show _ = _; rw [← HP.out, if_pos hlt]
    clear hlt
    go_wp2_with fail
    refine bodyPost_ret (results_tmp2 rfl _ _ _) rfl ?_
    rw [HPE.out]
    exact DeedQ.no HK2.out
  · have hg : ¬ (on : Int) < (m : Int) := by omega
    have HPE : Hid (P = (all, 0)) := by show _ = _; rw [← HP.out, if_neg hlt]
    clear hlt
    go_wp2_with fail
    refine bodyPost_ret (results_tmp2 rfl _ _ _) rfl ?_
    rw [HPE.out]
    unfold DeedQ
    dsimp only
    rw [HAL.out]
    exact ⟨B, d, rfl, HR2.out, HK2.out⟩
end Go.Proofs.YtmgkejgmkfeccaaGreatDoor
