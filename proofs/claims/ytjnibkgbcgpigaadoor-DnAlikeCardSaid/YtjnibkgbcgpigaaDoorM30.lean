/- Texts of one proof, laid together: N49. -/
import Derived.Test.YtjnibkgbcgpigaaDoorM29
import Derived.Test.YtjnibkgbcgpigaaDoorM24
import Derived.Test.YtjnibkgbcgpigaaDoorM11
/- dn: the document's Alike, Below; Key; walked. -/
namespace Go.Proofs.YtjnibkgbcgpigaaDoor
open Go.RowKit Go.Shelf
set_option linter.unusedVariables false
set_option linter.unusedSimpArgs false
set_option maxRecDepth 100000

theorem below_ref (a b : List Part6) : belowD a b = ((nameOk a && nameOk b) && (decide (b.length < a.length) && alikeR (a.drop (a.length - b.length)) b)) := by
  unfold belowD alikeD
  cases ha : nameOk a with
  | false => simp
  | true =>
    rw [nameOk_drop (a.length - b.length) ha]
    by_cases h : b.length < a.length
    · rw [show decide ((a.drop (a.length - b.length)).length = b.length) = true by rw [List.length_drop]; simp; omega]
      simp [h]
    · simp [h]

set_option maxHeartbeats 4000000 in
theorem ralike_is (A B : Option Addr) (n m c c' : Nat) (a b : List Part6) (w : World) (ha : DnIn w A n a) (hb : DnIn w B m b) (hn : n ≤ 4611686018427387904) (hm : m ≤ 4611686018427387904) :
    Calls Tryd.prog 19 #[.slice A n c, .slice B m c'] w fun e w' => e = .returned (.bool (alikeD a b)) ∧ Keeps [] w w' := by
  have HR1 := Lib.hid (rright_is A n c a w hn ha)
  have HR2 := Lib.hid (fun X (hk : Keeps [] w X) => rright_is B m c' b X hm (hb.grow hk))
  have hv : alikeD a b = ((nameOk a && nameOk b) && (decide (n = m) && alikeR a b)) := by unfold alikeD; rw [ha.1, hb.1]
  rw [hv]
  cases h1 : nameOk a with
  | false =>
    rw [h1] at HR1
    clear ha hb hn hm hv h1
    go_enter Tryd.func19, Tryd.ntmps19
    go_wp2_with fail
    refine HR1.out.mono ?_
    rintro e w1 ⟨rfl, hk⟩
    have HK := Lib.hid hk
    clear hk
    go_wp2_with fail
    go_ret
    exact ⟨rfl, HK.out⟩
  | true =>
  rw [h1] at HR1
  have hn16 : n ≤ 16 := by have h2 := (nameOk_parts h1).1; have h3 := ha.1; omega
  have HEN := Lib.hid (fun X (hk : Keeps [] w X) (h : n = m) => ends_is A B n m c c' a b X (ha.grow hk) (hb.grow hk) (by omega) hn16)
  generalize nameOk b = y at *
  clear ha hb hn hm hv h1
  cases y
  · go_enter Tryd.func19, Tryd.ntmps19
    go_wp2_with fail
    refine HR1.out.mono ?_
    rintro e w1 ⟨rfl, hk⟩
    have HK := Lib.hid hk
    clear hk
    go_wp2_with fail
    refine (HR2.out _ HK.out).mono ?_
    rintro e w2 ⟨rfl, hk2⟩
    have HK2 := Lib.hid (HK.out.trans' hk2)
    clear hk2
    go_wp2_with fail
    go_ret
    exact ⟨rfl, HK2.out⟩
  · by_cases hnm : n = m
    · have HE2 := Lib.hid (fun X hk => HEN.out X hk hnm)
      subst hnm
      rw [Nat.sub_self, List.drop_zero] at HE2
      rw [show decide (n = n) = true by simp]
      generalize alikeR a b = z at *
      clear HEN
      go_enter Tryd.func19, Tryd.ntmps19
      go_wp2_with fail
      refine HR1.out.mono ?_
      rintro e w1 ⟨rfl, hk⟩
      have HK := Lib.hid hk
      clear hk
      go_wp2_with fail
      refine (HR2.out _ HK.out).mono ?_
      rintro e w2 ⟨rfl, hk2⟩
      have HK2 := Lib.hid (HK.out.trans' hk2)
      clear hk2
      go_wp2_with fail
      refine (HE2.out _ HK2.out).mono ?_
      rintro e w3 ⟨rfl, hk3⟩
      have HK3 := Lib.hid (HK2.out.trans' hk3)
      clear hk3
      go_wp2_with fail
      go_ret
      exact ⟨rfl, HK3.out⟩
    · rw [show decide (n = m) = false by simp [hnm]]
      have hni : ¬ (n : Int) = (m : Int) := by omega
      have hnb : ((n : Int) == (m : Int)) = false := by simpa using hni
      clear HEN
      go_enter Tryd.func19, Tryd.ntmps19
      go_wp2_with fail
      refine HR1.out.mono ?_
      rintro e w1 ⟨rfl, hk⟩
      have HK := Lib.hid hk
      clear hk
      go_wp2_with fail
      refine (HR2.out _ HK.out).mono ?_
      rintro e w2 ⟨rfl, hk2⟩
      have HK2 := Lib.hid (HK.out.trans' hk2)
      clear hk2
      go_wp2_with fail
      go_ret
      exact ⟨rfl, HK2.out⟩

set_option maxHeartbeats 4000000 in
theorem rbelow_is (A B : Option Addr) (n m c c' : Nat) (a b : List Part6) (w : World) (ha : DnIn w A n a) (hb : DnIn w B m b) (hn : n ≤ 4611686018427387904) (hm : m ≤ 4611686018427387904) :
    Calls Tryd.prog 22 #[.slice A n c, .slice B m c'] w fun e w' => e = .returned (.bool (belowD a b)) ∧ Keeps [] w w' := by
  have HR1 := Lib.hid (rright_is A n c a w hn ha)
  have HR2 := Lib.hid (fun X (hk : Keeps [] w X) => rright_is B m c' b X hm (hb.grow hk))
  have hv : belowD a b = ((nameOk a && nameOk b) && (decide (m < n) && alikeR (a.drop (n - m)) b)) := by rw [below_ref, ha.1, hb.1]
  rw [hv]
  cases h1 : nameOk a with
  | false =>
    rw [h1] at HR1
    clear ha hb hn hm hv h1
    go_enter Tryd.func22, Tryd.ntmps22
    go_wp2_with fail
    refine HR1.out.mono ?_
    rintro e w1 ⟨rfl, hk⟩
    have HK := Lib.hid hk
    clear hk
    go_wp2_with fail
    go_ret
    exact ⟨rfl, HK.out⟩
  | true =>
  rw [h1] at HR1
  have hn16 : n ≤ 16 := by have h2 := (nameOk_parts h1).1; have h3 := ha.1; omega
  have HEN := Lib.hid (fun X (hk : Keeps [] w X) (h : m < n) => ends_is A B n m c c' a b X (ha.grow hk) (hb.grow hk) (by omega) hn16)
  generalize nameOk b = y at *
  generalize alikeR (a.drop (n - m)) b = z at *
  clear ha hb hn hm hv h1
  cases y
  · go_enter Tryd.func22, Tryd.ntmps22
    go_wp2_with fail
    refine HR1.out.mono ?_
    rintro e w1 ⟨rfl, hk⟩
    have HK := Lib.hid hk
    clear hk
    go_wp2_with fail
    refine (HR2.out _ HK.out).mono ?_
    rintro e w2 ⟨rfl, hk2⟩
    have HK2 := Lib.hid (HK.out.trans' hk2)
    clear hk2
    go_wp2_with fail
    go_ret
    exact ⟨rfl, HK2.out⟩
  · by_cases hnm : m < n
    · have HE2 := Lib.hid (fun X hk => HEN.out X hk hnm)
      rw [show decide (m < n) = true by simpa using hnm]
      have hni : (m : Int) < (n : Int) := by omega
      have hnb : decide ((m : Int) < (n : Int)) = true := by simpa using hni
      clear HEN
      go_enter Tryd.func22, Tryd.ntmps22
      go_wp2_with fail
      refine HR1.out.mono ?_
      rintro e w1 ⟨rfl, hk⟩
      have HK := Lib.hid hk
      clear hk
      go_wp2_with fail
      refine (HR2.out _ HK.out).mono ?_
      rintro e w2 ⟨rfl, hk2⟩
      have HK2 := Lib.hid (HK.out.trans' hk2)
      clear hk2
      go_wp2_with fail
      refine (HE2.out _ HK2.out).mono ?_
      rintro e w3 ⟨rfl, hk3⟩
      have HK3 := Lib.hid (HK2.out.trans' hk3)
      clear hk3
      go_wp2_with fail
      go_ret
      exact ⟨rfl, HK3.out⟩
    · rw [show decide (m < n) = false by simpa using hnm]
      have hni : ¬ (m : Int) < (n : Int) := by omega
      have hnb : decide ((m : Int) < (n : Int)) = false := by simp; omega
      clear HEN
      go_enter Tryd.func22, Tryd.ntmps22
      go_wp2_with fail
      refine HR1.out.mono ?_
      rintro e w1 ⟨rfl, hk⟩
      have HK := Lib.hid hk
      clear hk
      go_wp2_with fail
      refine (HR2.out _ HK.out).mono ?_
      rintro e w2 ⟨rfl, hk2⟩
      have HK2 := Lib.hid (HK.out.trans' hk2)
      clear hk2
      go_wp2_with fail
      go_ret
      exact ⟨rfl, HK2.out⟩

theorem key_is (A : Option Addr) (n c : Nat) (d : List Part6) (w : World) (hn : n ≤ 4611686018427387904) (h : DnIn w A n d) :
    Calls Tryd.prog 23 #[.slice A n c] w fun e w' => e = .returned (.tuple #[.string ⟨(if nameOk d then smallL (dnT d) else []).toArray⟩, .int .i64 (if nameOk d then 0 else 2)]) ∧ Keeps [] w w' := by
  cases hok : nameOk d with
  | false =>
    have HT := Lib.hid (text_no A n c d w hn h hok)
    have HS := Lib.hid (fun X => small_is [] X (by simp))
    rw [show smallL [] = [] from rfl] at HS
    simp only [Bool.false_eq_true, if_false]
    clear h hok hn
    go_enter Tryd.func23, Tryd.ntmps23
    go_wp2_with fail
    refine HT.out.mono ?_
    rintro e w1 ⟨rfl, hk⟩
    have HK := Lib.hid hk
    clear hk
    go_wp2_with fail
    refine (HS.out _).mono ?_
    rintro e w2 ⟨rfl, hk2⟩
    have HK2 := Lib.hid (HK.out.trans' hk2)
    clear hk2
    go_wp2_with fail
    go_ret2
    exact ⟨rfl, HK2.out⟩
  | true =>
    have HT := Lib.hid (text_yes A n c d w h hok)
    have hl := dnT_len hok
    have HS := Lib.hid (fun X => small_is (dnT d) X (by omega))
    simp only [if_true]
    generalize smallL (dnT d) = z at *
    generalize dnT d = y at *
    clear h hok hn hl
    go_enter Tryd.func23, Tryd.ntmps23
    go_wp2_with fail
    refine HT.out.mono ?_
    rintro e w1 ⟨rfl, hk⟩
    have HK := Lib.hid hk
    clear hk
    go_wp2_with fail
    refine (HS.out _).mono ?_
    rintro e w2 ⟨rfl, hk2⟩
    have HK2 := Lib.hid (HK.out.trans' hk2)
    clear hk2
    go_wp2_with fail
    go_ret2
    exact ⟨rfl, HK2.out⟩

end Go.Proofs.YtjnibkgbcgpigaaDoor
