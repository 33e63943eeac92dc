
/- dn: Alike, Below; walked. -/
import Derived.Test.YtjnibkgbcgpigaaDoorN38
namespace Go.Proofs.YtjnibkgbcgpigaaDoor
open Go.RowKit Go.Shelf
set_option linter.unusedVariables false
set_option linter.unusedSimpArgs false
set_option maxRecDepth 100000

/-- A name in memory, as a slice with room. -/
def DnV (w : World) (A : Option Addr) (n c : Nat) (d : List Part6) : Prop := DnIn w A n d ∧ n ≤ c ∧ c ≤ 9223372036854775807 ∧ n ≤ 4611686018427387904
theorem DnV.grow {w X : World} {A : Option Addr} {n c : Nat} {d : List Part6} (h : DnV w A n c d) (hk : Keeps [] w X) : DnV X A n c d := ⟨h.1.grow hk, h.2⟩
theorem two_names (w : World) (A B : Option Addr) (n c m c' : Nat) (a b : List Part6) (t : TypeId) (hn : n ≤ 4611686018427387904) (hm : m ≤ 4611686018427387904) (ha : DnIn w A n a) (hb : DnIn w B m b) : NmsIn (w.alloc (.cells #[.slice A n c, .slice B m c'] t)) w.heap.size [⟨A, n, c, a⟩, ⟨B, m, c', b⟩] := fun i x hi => by
  have hk : Keeps [] w (w.alloc (.cells #[.slice A n c, .slice B m c'] t)) := (Keeps.refl [] w).alloc _
  obtain ⟨f0, f1⟩ := two_facts6 (heap_new8 w (.cells #[.slice A n c, .slice B m c'] t))
  rcases i with _ | _ | i
  · simp at hi; subst hi; exact ⟨f0, hn, ha.grow hk⟩
  · simp at hi; subst hi; exact ⟨f1, hm, hb.grow hk⟩
  · simp at hi

set_option maxHeartbeats 4000000 in
theorem alike6_is (A B : Option Addr) (n m c c' : Nat) (a b : List Part6) (w : World) (ha : DnIn w A n a) (hb : DnIn w B m b) (hn : n ≤ 4611686018427387904) (hm : m ≤ 4611686018427387904) :
    Calls Tryd.prog 20 #[.slice A n c, .slice B m c'] w fun e w' => e = .returned (.bool (alikeD a b)) ∧ Keeps [] w w' := by
  have HM := Lib.hid (maybe6_is w.heap.size 2 [⟨A, n, c, a⟩, ⟨B, m, c', b⟩] _ rfl (by decide) (two_names w A B n c m c' a b 23 hn hm ha hb))
  simp only [List.all_cons, List.all_nil, Bool.and_true] at HM
  have HE := Lib.hid (fun X (hk : Keeps [] w X) => equalfunc_is A B n m c c' a b X (ha.grow hk) (hb.grow hk) hn)
  have hv : alikeD a b = ((nameOk a && nameOk b) && (decide (n = m) && alikeR a b)) := by unfold alikeD; rw [ha.1, hb.1]
  rw [hv]
  have HK0 : Hid (Keeps [] w (w.alloc (.cells #[.slice A n c, .slice B m c'] 23))) := (Keeps.refl [] w).alloc _
  generalize (nameOk a && nameOk b) = x at *
  generalize (decide (n = m) && alikeR a b) = y at *
  clear ha hb hn hm hv
  go_enter Tryd.func20, Tryd.ntmps20
  go_wp2_with fail
  refine HM.out.mono ?_
  rintro e w1 ⟨rfl, hk1⟩
  have HK1 := Lib.hid (HK0.out.trans' hk1)
  clear hk1
  cases x
  · go_wp2_with fail
    go_ret
    exact ⟨rfl, HK1.out⟩
  · go_wp2_with fail
    refine (HE.out _ HK1.out).mono ?_
    rintro e w2 ⟨rfl, hk2⟩
    have HK2 := Lib.hid (HK1.out.trans' hk2)
    clear hk2
    go_wp2_with fail
    go_ret
    exact ⟨rfl, HK2.out⟩

theorem slice_from6 (A : Option Addr) (n c at_ : Nat) (d : List Part6) (hnc : n ≤ c) (hcm : c ≤ 9223372036854775807) (hn62 : n ≤ 4611686018427387904) (ha : at_ ≤ n) :
    ∃ B e, (∀ W, (Instr.slice 23 (.slice A n c) (some (.int .i64 (at_ : Int))) none none).run Tryd.prog W = .ok (.slice B (n - at_) e) W) ∧ ∀ W, DnIn W A n d → DnV W B (n - at_) e (d.drop at_) := by
  have hr : ∀ W, (Instr.slice 23 (.slice A n c) (some (.int .i64 (at_ : Int))) none none).run Tryd.prog W = .ok (.slice (if c = at_ then A else A.map (·.add (at_ * 2))) (n - at_) (c - at_)) W := by
    intro W
    rw [run_slice_l W 23 A n c (by simp [Program.elem, Tryd.underlying23]) .i64 _ (by omega) (by omega)]
    rw [show Tryd.prog.elem 23 = 38 by simp [Program.elem, Tryd.underlying23], Tryd.sizeOf38]
    simp [Result.andThen, sliced]
  refine ⟨_, _, hr, fun W hb => ⟨?_, by omega, by omega, by omega⟩⟩
  obtain ⟨h1, h2, h3⟩ := hb
  refine ⟨by rw [List.length_drop, h1], fun p hp => h2 p (List.mem_of_mem_drop hp), fun hp => ?_⟩
  obtain ⟨b, o, rfl, hc⟩ := h3 (by omega)
  refine ⟨b, o + at_ * 2, ?_, fun i p hi => ?_⟩
  · rw [if_neg (by omega)]
    simp [Addr.add]
  · rw [List.getElem?_drop] at hi
    have := hc (at_ + i) p hi
    rw [show o + at_ * 2 + i * 2 = o + (at_ + i) * 2 by omega]
    exact this

def belowD (a b : List Part6) : Bool := decide (b.length < a.length) && (nameOk a && alikeD (a.drop (a.length - b.length)) b)

set_option maxHeartbeats 4000000 in
theorem below6_is (A B : Option Addr) (n m c c' : Nat) (a b : List Part6) (w : World) (ha : DnV w A n c a) (hb : DnV w B m c' b) :
    Calls Tryd.prog 21 #[.slice A n c, .slice B m c'] w fun e w' => e = .returned (.bool (belowD a b)) ∧ Keeps [] w w' := by
  obtain ⟨ha, hnc, hcm, hn62⟩ := ha
  obtain ⟨hb, hmc, hcm2, hm62⟩ := hb
  have hv : belowD a b = (decide (m < n) && (nameOk a && alikeD (a.drop (n - m)) b)) := by unfold belowD; rw [ha.1, hb.1]
  rw [hv]
  by_cases hmn : m < n
  · obtain ⟨D, e, hsl, hdn⟩ := slice_from6 A n c (n - m) a hnc hcm hn62 (by omega)
    have hmm : n - (n - m) = m := by omega
    rw [hmm] at hsl hdn
    have HA := Lib.hid (fun X (hk : Keeps [] w X) => alike6_is D B m m e c' (a.drop (n - m)) b X (hdn X (ha.grow hk)).1 (hb.grow hk) (by omega) (by omega))
    have HM := Lib.hid (maybe6_is w.heap.size 1 [⟨A, n, c, a⟩] _ rfl (by decide) (one_name w A n c a 23 (by omega) ha))
    simp only [List.all_cons, List.all_nil, Bool.and_true] at HM
    have HK0 : Hid (Keeps [] w (w.alloc (.cells #[.slice A n c] 23))) := (Keeps.refl [] w).alloc _
    rw [show decide (m < n) = true by simpa using hmn, Bool.true_and]
    generalize nameOk a = x at *
    generalize alikeD (a.drop (n - m)) b = y at *
    have hsub : (n : Int) - (m : Int) = ((n - m : Nat) : Int) := by omega
    have hpos : (0 : Int) < ((n - m : Nat) : Int) := by omega
    have hposb : decide ((0 : Int) < ((n - m : Nat) : Int)) = true := by simp; omega
    have hw : wrap64 ((n - m : Nat) : Int) = ((n - m : Nat) : Int) := by unfold wrap64; omega
    generalize ((n - m : Nat) : Int) = k at *
    clear ha hb hdn hnc hmc hcm hcm2 hmn hmm hv hn62 hm62
    go_enter Tryd.func21, Tryd.ntmps21
    go_wp2_with fail
    refine HM.out.mono ?_
    rintro e1 w1 ⟨rfl, hk1⟩
    have HK1 := Lib.hid (HK0.out.trans' hk1)
    clear hk1
    cases x
    · go_wp2_with fail
      go_ret
      exact ⟨rfl, HK1.out⟩
    · go_wp2_with fail
      refine (HA.out _ HK1.out).mono ?_
      rintro e2 w2 ⟨rfl, hk2⟩
      have HK2 := Lib.hid (HK1.out.trans' hk2)
      clear hk2
      go_wp2_with fail
      go_ret
      exact ⟨rfl, HK2.out⟩
  · rw [show decide (m < n) = false by simpa using hmn, Bool.false_and]
    have hpos : ¬ (0 : Int) < (n : Int) - (m : Int) := by omega
    have hposb : decide ((0 : Int) < (n : Int) - (m : Int)) = false := by simp; omega
    have hw : wrap64 ((n : Int) - (m : Int)) = (n : Int) - (m : Int) := by unfold wrap64; omega
    clear ha hb hv
    go_enter Tryd.func21, Tryd.ntmps21
    go_wp2_with fail
    go_ret
    exact ⟨rfl, Keeps.refl _ _⟩

end Go.Proofs.YtjnibkgbcgpigaaDoor
