/- Texts of one proof, laid together: N47. -/
import Derived.Test.YtjnibkgbcgpigaaDoorM26
import Derived.Test.YtjnibkgbcgpigaaDoorM27
import Derived.Test.YtjnibkgbcgpigaaDoorM25
import Derived.Test.YtjnibkgbcgpigaaDoorM24
/- dn: the text of any name, and the name of that: the law (the stage's theorem). -/
namespace Go.Proofs.YtjnibkgbcgpigaaDoor
open Go.RowKit Go.Shelf
set_option linter.unusedVariables false
set_option linter.unusedSimpArgs false
set_option maxRecDepth 100000

set_option maxHeartbeats 8000000 in
theorem dntexts_keeps (A : Option Addr) (n c : Nat) (d : List Part6) (w : World) (h0 : DnIn w A n d) (hnc : n ≤ c) (hcm : c ≤ 9223372036854775807) (hs : SynAt w) :
    Calls Tryd.prog 3 #[.slice A n c] w fun e w' => e = .returned (.bool true) ∧ Keeps [] w w' := by
  have HKN := Lib.hid (fun X (hk : Keeps [] w X) => known6_is X (hs.keep hk (by simp)))
  have HSY := Lib.hid (fun X (hk : Keeps [] w X) => hs.keep hk (by simp))
  have HLI := Lib.hid (light_is A n c d w h0)
  clear hs
  cases hli : lightD d with
  | false =>
    rw [hli] at HLI
    clear hli h0 hnc hcm
    go_enter Tryd.func3, Tryd.ntmps3
    go_wp2_with fail
    refine HLI.out.mono ?_
    rintro e w0 ⟨rfl, rfl⟩
    go_wp2_with fail
    refine (HKN.out _ (Keeps.refl _ _)).mono ?_
    rintro e w1 ⟨rfl, hk⟩
    have HK := Lib.hid hk
    clear hk
    go_wp2_with fail
    go_ret
    exact ⟨rfl, HK.out⟩
  | true =>
  rw [hli] at HLI
  have hn20 : n ≤ 20 := by have := light_le hli; have := h0.1; omega
  have HD := Lib.hid h0
  have HCH := Lib.hid (fun X (hk : Keeps [] w X) => check6_is A n c d X (by omega) (h0.grow hk))
  have HRR := Lib.hid (fun X (hk : Keeps [] w X) => rright_is A n c d X (by omega) (h0.grow hk))
  cases hok : nameOk d with
  | false =>
    have HTX := Lib.hid (text_no A n c d w (by omega) h0 hok)
    rw [hok] at HCH HRR
    simp only [Bool.false_eq_true, if_false] at HCH
    clear hok h0 hnc hcm hli
    go_enter Tryd.func3, Tryd.ntmps3
    go_wp2_with fail
    refine HLI.out.mono ?_
    rintro e w0 ⟨rfl, rfl⟩
    go_wp2_with fail
    refine HTX.out.mono ?_
    rintro e w1 ⟨rfl, hk1⟩
    have HK1 := Lib.hid hk1
    clear hk1
    go_wp2_with fail
    refine (HRR.out _ HK1.out).mono ?_
    rintro e w2 ⟨rfl, hk2⟩
    have HK2 := Lib.hid (HK1.out.trans' hk2)
    clear hk2
    go_wp2_with fail
    refine (HCH.out _ HK2.out).mono ?_
    rintro e w3 ⟨rfl, hk3⟩
    have HK3 := Lib.hid (HK2.out.trans' hk3)
    clear hk3
    go_wp2_with fail
    refine (HKN.out _ HK3.out).mono ?_
    rintro e w4 ⟨rfl, hk4⟩
    have HK4 := Lib.hid (HK3.out.trans' hk4)
    clear hk4
    go_wp2_with fail
    go_ret
    exact ⟨rfl, HK4.out⟩
  | true =>
    have HTX := Lib.hid (text_yes A n c d w h0 hok)
    have HRT := Lib.hid (fun X (hk : Keeps [] w X) => rtext_is A n c d X (h0.grow hk) hok)
    have hlen := dnT_len hok
    have hpt := parse_text hok
    obtain ⟨T, hT⟩ : ∃ T, dnT d = T := ⟨_, rfl⟩
    rw [hT] at HTX HRT hlen hpt
    have HPA := Lib.hid (fun X (hk : Keeps [] w X) => parse_is T X (by omega) (HSY.out X hk))
    have HPT := Lib.hid hpt
    have HSM := Lib.hid (fun X (hk : Keeps [] w X) B m e' (hb : DnIn X B m d) (hm : m ≤ 16) => rsame6_is B A m n e' c d d X hb (h0.grow hk) (by omega))
    rw [show (d == d) = true by simp] at HSM
    rw [hok] at HCH HRR
    simp only [if_true] at HCH
    clear hok h0 hnc hcm hT hlen hpt hli
    go_enter Tryd.func3, Tryd.ntmps3
    go_wp2_with fail
    refine HLI.out.mono ?_
    rintro e w0 ⟨rfl, rfl⟩
    go_wp2_with fail
    refine HTX.out.mono ?_
    rintro e w1 ⟨rfl, hk1⟩
    have HK1 := Lib.hid hk1
    clear hk1
    go_wp2_with fail
    refine (HRR.out _ HK1.out).mono ?_
    rintro e w2 ⟨rfl, hk2⟩
    have HK2 := Lib.hid (HK1.out.trans' hk2)
    clear hk2
    go_wp2_with fail
    refine (HPA.out _ HK2.out).mono ?_
    rintro e w3 ⟨hq1, _, hk3⟩
    obtain ⟨B, m, e', rfl, hm, hd⟩ := hq1 d HPT.out
    have HM16 := Lib.hid hm
    have HDB := Lib.hid hd
    have HK3 := Lib.hid (HK2.out.trans' hk3)
    clear hq1 hk3 hm hd
    go_wp2_with fail
    refine (HRT.out _ HK3.out).mono ?_
    rintro e w4 ⟨rfl, hk4⟩
    have HK4 := Lib.hid (HK3.out.trans' hk4)
    have HDB4 := Lib.hid (HDB.out.grow hk4)
    clear hk4
    go_wp2_with fail
    refine (HCH.out _ HK4.out).mono ?_
    rintro e w5 ⟨rfl, hk5⟩
    have HK5 := Lib.hid (HK4.out.trans' hk5)
    have HDB5 := Lib.hid (HDB4.out.grow hk5)
    clear hk5
    go_wp2_with fail
    refine (HSM.out _ HK5.out B m e' HDB5.out HM16.out).mono ?_
    rintro e w6 ⟨rfl, hk6⟩
    have HK6 := Lib.hid (HK5.out.trans' hk6)
    clear hk6
    go_wp2_with fail
    refine (HKN.out _ HK6.out).mono ?_
    rintro e w7 ⟨rfl, hk7⟩
    have HK7 := Lib.hid (HK6.out.trans' hk7)
    clear hk7
    go_wp2_with fail
    go_ret
    exact ⟨rfl, HK7.out⟩
theorem dntexts_any (A : Option Addr) (n c : Nat) (d : List Part6) (w : World) (h0 : DnIn w A n d) (hnc : n ≤ c) (hcm : c ≤ 9223372036854775807) (hs : SynAt w) :
    Calls Tryd.prog 3 #[.slice A n c] w fun e w' => e = .returned (.bool true) ∧ Below w.heap.size w w' :=
  (dntexts_keeps A n c d w h0 hnc hcm hs).mono fun e w' ⟨he, hk⟩ => ⟨he, hk.below (Nat.le_refl _) (by simp)⟩

end Go.Proofs.YtjnibkgbcgpigaaDoor
