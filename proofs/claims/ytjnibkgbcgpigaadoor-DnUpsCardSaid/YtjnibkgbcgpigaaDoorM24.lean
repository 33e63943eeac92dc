/- Texts of one proof, laid together: N41. -/
import Derived.Test.YtjnibkgbcgpigaaDoorM23
import Derived.Test.YtjnibkgbcgpigaaDoorM21
import Derived.Test.YtjnibkgbcgpigaaDoorM18
/- dn: each name is below all that stand above it: the law. -/
namespace Go.Proofs.YtjnibkgbcgpigaaDoor
open Go.RowKit Go.Shelf
set_option linter.unusedVariables false
set_option linter.unusedSimpArgs false
set_option maxRecDepth 100000

theorem alikeP_self (p : Part6) : alikeP p p = true := by simp [alikeP]
theorem alikeR_self : ∀ d : List Part6, alikeR d d = true
  | [] => rfl
  | p :: r => by
    have ih := alikeR_self r
    unfold alikeR at *
    simp only [List.zip_cons_cons, List.all_cons, alikeP_self, ih, Bool.and_self]
theorem nameOk_drop {d : List Part6} (k : Nat) (h : nameOk d = true) : nameOk (d.drop k) = true := by
  unfold nameOk at *
  simp only [Bool.and_eq_true, decide_eq_true_eq, List.all_eq_true, List.length_drop] at *
  exact ⟨by omega, fun p hp => h.2 p (List.mem_of_mem_drop hp)⟩
theorem alikeD_self {d : List Part6} (h : nameOk d = true) : alikeD d d = true := by
  simp [alikeD, h, alikeR_self]
theorem below_drop {d : List Part6} {j k : Nat} (h : nameOk d = true) (hj : j < k) (hk : k ≤ d.length) : belowD (d.drop j) (d.drop k) = true := by
  unfold belowD
  rw [List.length_drop, List.length_drop, List.drop_drop, show j + (d.length - j - (d.length - k)) = k by omega, alikeD_self (nameOk_drop k h), nameOk_drop j h]
  simp
  omega
theorem below_not {d : List Part6} {j k : Nat} (hj : j ≤ k) : belowD (d.drop k) (d.drop j) = false := by
  unfold belowD
  rw [List.length_drop, List.length_drop]
  simp
  omega
theorem alike_not {d : List Part6} {j k : Nat} (hj : j < k) (hk : k ≤ d.length) : alikeD (d.drop k) (d.drop j) = false := by
  unfold alikeD
  rw [List.length_drop, List.length_drop, show decide (d.length - k = d.length - j) = false by simp; omega]
  simp

theorem light_le {d : List Part6} (h : lightD d = true) : d.length ≤ 20 := by
  unfold lightD at h
  simp only [Bool.and_eq_true, decide_eq_true_eq] at h
  exact h.1

set_option maxHeartbeats 8000000 in
theorem dnchain_keeps (A : Option Addr) (n c : Nat) (d : List Part6) (w : World) (h0 : DnIn w A n d) (hnc : n ≤ c) (hcm : c ≤ 9223372036854775807) (hs : SynAt w) :
    Calls Tryd.prog 9 #[.slice A n c] w fun e w' => e = .returned (.bool true) ∧ Keeps [] w w' := by
  have HKN := Lib.hid (fun X (hk : Keeps [] w X) => known6_is X (hs.keep hk (by simp)))
  have HLI := Lib.hid (light_is A n c d w h0)
  clear hs
  cases hli : lightD d with
  | false =>
    rw [hli] at HLI
    clear hli h0 hnc hcm
    go_enter Tryd.func9, Tryd.ntmps9
    go_wp2_with fail
    refine HLI.out.mono ?_
    rintro e w0 ⟨rfl, rfl⟩
    go_wp2_with fail
    refine (HKN.out _ (Keeps.refl _ _)).mono ?_
    rintro e w1 ⟨rfl, hk⟩
    have HK := Lib.hid hk
    clear hk
    go_wp2_with fail
    go_ret
    exact ⟨rfl, HK.out⟩
  | true =>
  rw [hli] at HLI
  have h : DnV w A n c d := ⟨h0, hnc, hcm, by have := light_le hli; have := h0.1; omega⟩
  have HCH := Lib.hid (check6_is A n c d w h.2.2.2 h.1)
  have HV := Lib.hid h
  clear h h0 hnc hcm hli
  cases hok : nameOk d with
  | false =>
    rw [hok] at HCH
    simp only [Bool.false_eq_true, if_false] at HCH
    clear hok
    go_enter Tryd.func9, Tryd.ntmps9
    go_wp2_with fail
    refine HLI.out.mono ?_
    rintro e w0 ⟨rfl, rfl⟩
    go_wp2_with fail
    refine HCH.out.mono ?_
    rintro e w1 ⟨rfl, hk1⟩
    have HK1 := Lib.hid hk1
    clear hk1
    go_wp2_with fail
    refine (HKN.out _ HK1.out).mono ?_
    rintro e w2 ⟨rfl, hk⟩
    have HK := Lib.hid (HK1.out.trans' hk)
    clear hk
    go_wp2_with fail
    go_ret
    exact ⟨rfl, HK.out⟩
  | true =>
    rw [hok] at HCH
    simp only [if_true] at HCH
    have HOK := Lib.hid hok
    have hn16 : n ≤ 16 := by have h1 := (nameOk_parts hok).1; have h2 := HV.out.1.1; omega
    clear hok
    go_enter Tryd.func9, Tryd.ntmps9
    go_wp2_with fail
    refine HLI.out.mono ?_
    rintro e w0 ⟨rfl, rfl⟩
    go_wp2_with fail
    refine HCH.out.mono ?_
    rintro e w1 ⟨rfl, hk1⟩
    have HK1 := Lib.hid hk1
    clear hk1
    go_wp2_with fail
    go_loopw [3, 4] (fun u i wr => ∃ (k : Nat) (B : Option Addr) (cc : Nat), u = .slice B (n - k) cc ∧ i = .int .i64 (k : Int) ∧ k ≤ n ∧ Hid (DnV wr B (n - k) cc (d.drop k)) ∧ Hid (Keeps [] w1 wr)) (fun _ i _ => 20 - (intOf i).toNat)
    case atStart => exact ⟨0, A, c, by rw [Nat.sub_zero], rfl, Nat.zero_le _, by rw [Nat.sub_zero]; exact HV.out.grow HK1.out, Keeps.refl _ _⟩
    case round =>
      obtain ⟨k, B, cc, rfl, rfl, hk, HU, HKR⟩ := hrel
      have hk20 : (k : Int) < 20 := by omega
      have HLD : Hid (d.length = n) := HV.out.1.1
      have HKW := Lib.hid (HK1.out.trans' HKR.out)
      rcases Nat.eq_zero_or_pos (n - k) with h0 | h0
      · have HUP := Lib.hid (up_no B (n - k) cc (d.drop k) wr HU.out (.inl h0))
        rw [h0] at HUP ⊢
        clear h0
        go_wp2_with fail
        refine HUP.out.mono ?_
        rintro e w2 ⟨rfl, hk2⟩
        have HK2 := Lib.hid (HKW.out.trans' hk2)
        clear hk2
        go_wp2_with fail
        refine (HKN.out _ HK2.out).mono ?_
        rintro e w3 ⟨rfl, hk3⟩
        have HK3 := Lib.hid (HK2.out.trans' hk3)
        clear hk3
        go_wp2_with fail
        go_ret
        exact ⟨rfl, HK3.out⟩
      · have HUP := Lib.hid (up_yes B (n - k) cc (d.drop k) wr HU.out h0 (nameOk_drop k HOK.out))
        have hdd : (d.drop k).drop 1 = d.drop (k + 1) := by rw [List.drop_drop]
        rw [hdd, show n - k - 1 = n - (k + 1) by omega] at HUP
        have hb1 : belowD d (d.drop (k + 1)) = true := below_drop (j := 0) HOK.out (by omega) (by rw [HLD.out]; omega)
        have hb2 : belowD (d.drop k) (d.drop (k + 1)) = true := below_drop HOK.out (by omega) (by rw [HLD.out]; omega)
        have hb3 : belowD (d.drop (k + 1)) (d.drop k) = false := below_not (by omega)
        have hb4 : alikeD (d.drop (k + 1)) (d.drop k) = false := alike_not (by omega) (by rw [HLD.out]; omega)
        have HB1 := Lib.hid (fun X (hx : Keeps [] wr X) C e' (hv : DnV X C (n - (k + 1)) e' (d.drop (k + 1))) => below6_is A C n (n - (k + 1)) c e' d (d.drop (k + 1)) X (HV.out.grow (HKW.out.trans' hx)) hv)
        have HB2 := Lib.hid (fun X (hx : Keeps [] wr X) C e' (hv : DnV X C (n - (k + 1)) e' (d.drop (k + 1))) => below6_is B C (n - k) (n - (k + 1)) cc e' (d.drop k) (d.drop (k + 1)) X (HU.out.grow hx) hv)
        have HB3 := Lib.hid (fun X (hx : Keeps [] wr X) C e' (hv : DnV X C (n - (k + 1)) e' (d.drop (k + 1))) => below6_is C B (n - (k + 1)) (n - k) e' cc (d.drop (k + 1)) (d.drop k) X hv (HU.out.grow hx))
        have HB4 := Lib.hid (fun X (hx : Keeps [] wr X) C e' (hv : DnV X C (n - (k + 1)) e' (d.drop (k + 1))) => alike6_is C B (n - (k + 1)) (n - k) e' cc (d.drop (k + 1)) (d.drop k) X hv.1 (HU.out.grow hx).1 (by omega) (by omega))
        rw [hb1] at HB1
        rw [hb2] at HB2
        rw [hb3] at HB3
        rw [hb4] at HB4
        obtain ⟨m, hm⟩ : ∃ m, n - k = m := ⟨_, rfl⟩
        obtain ⟨m', hm'⟩ : ∃ m', n - (k + 1) = m' := ⟨_, rfl⟩
        rw [hm, hm'] at HUP HB2 HB3 HB4
        rw [hm'] at HB1
        rw [hm]
        have HM' := Lib.hid hm'
        have hkn1 : k + 1 ≤ n := by omega
        clear hdd hb1 hb2 hb3 hb4 h0 hm hm'
        go_wp2_with fail
        refine HUP.out.mono ?_
        rintro e w2 ⟨C, e', rfl, hv, hk2⟩
        have HVC := Lib.hid hv
        have HK2 := Lib.hid hk2
        clear hv hk2
        go_wp2_with fail
        refine (HB1.out _ HK2.out C e' HVC.out).mono ?_
        rintro e w3 ⟨rfl, hk3⟩
        have HK3 := Lib.hid (HK2.out.trans' hk3)
        have HV3 := Lib.hid (HVC.out.grow hk3)
        clear hk3
        go_wp2_with fail
        refine (HB2.out _ HK3.out C e' HV3.out).mono ?_
        rintro e w4 ⟨rfl, hk4⟩
        have HK4 := Lib.hid (HK3.out.trans' hk4)
        have HV4 := Lib.hid (HV3.out.grow hk4)
        clear hk4
        go_wp2_with fail
        refine (HB3.out _ HK4.out C e' HV4.out).mono ?_
        rintro e w5 ⟨rfl, hk5⟩
        have HK5 := Lib.hid (HK4.out.trans' hk5)
        have HV5 := Lib.hid (HV4.out.grow hk5)
        clear hk5
        go_wp2_with fail
        refine (HB4.out _ HK5.out C e' HV5.out).mono ?_
        rintro e w6 ⟨rfl, hk6⟩
        have HK6 := Lib.hid (HKR.out.trans' (HK5.out.trans' hk6))
        have HV6 := Lib.hid (HV5.out.grow hk6)
        clear hk6
        go_wp2_with fail
        go_roundw
        case rel => exact ⟨k + 1, C, e', by rw [HM'.out], by go_num, hkn1, by rw [HM'.out]; exact HV6.out, HK6.out⟩
        case measure => simp [intOf]; omega
theorem dnchain_any (A : Option Addr) (n c : Nat) (d : List Part6) (w : World) (h0 : DnIn w A n d) (hnc : n ≤ c) (hcm : c ≤ 9223372036854775807) (hs : SynAt w) :
    Calls Tryd.prog 9 #[.slice A n c] w fun e w' => e = .returned (.bool true) ∧ Below w.heap.size w w' :=
  (dnchain_keeps A n c d w h0 hnc hcm hs).mono fun e w' ⟨he, hk⟩ => ⟨he, hk.below (Nat.le_refl _) (by simp)⟩

end Go.Proofs.YtjnibkgbcgpigaaDoor
