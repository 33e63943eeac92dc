/- Texts of one proof, laid together: N51. -/
import Derived.Test.YtjnibkgbcgpigaaDoorM30
import Derived.Test.YtjnibkgbcgpigaaDoorM31
/- dn: are two names alike, is one below the other, have they the same key: the law. -/
namespace Go.Proofs.YtjnibkgbcgpigaaDoor
open Go.RowKit Go.Shelf
set_option linter.unusedVariables false
set_option linter.unusedSimpArgs false
set_option maxRecDepth 100000

set_option maxHeartbeats 16000000 in
theorem dnalike_keeps (A B : Option Addr) (n m c c' : Nat) (a b : List Part6) (w : World) (ha : DnIn w A n a) (hnc : n ≤ c) (hcm : c ≤ 9223372036854775807) (hb : DnIn w B m b) (hmc : m ≤ c') (hcm' : c' ≤ 9223372036854775807) (hs : SynAt w) :
    Calls Tryd.prog 5 #[.slice A n c, .slice B m c'] w fun e w' => e = .returned (.bool true) ∧ Keeps [] w w' := by
  have HKN := Lib.hid (fun X (hk : Keeps [] w X) => known6_is X (hs.keep hk (by simp)))
  have HLA := Lib.hid (light_is A n c a w ha)
  have HLB := Lib.hid (light_is B m c' b w hb)
  clear hs
  cases hla : lightD a with
  | false =>
    rw [hla] at HLA
    clear hla ha hb hnc hcm hmc hcm'
    go_enter Tryd.func5, Tryd.ntmps5
    go_wp2_with fail
    refine HLA.out.mono ?_
    rintro e w0 ⟨rfl, rfl⟩
    go_wp2_with fail
    refine (HKN.out _ (Keeps.refl _ _)).mono ?_
    rintro e w1 ⟨rfl, hk⟩
    have HK := Lib.hid hk
    clear hk
    go_wp2_with fail
    go_ret
    exact ⟨rfl, HK.out⟩
  | true =>
  rw [hla] at HLA
  cases hlb : lightD b with
  | false =>
    rw [hlb] at HLB
    clear hla hlb ha hb hnc hcm hmc hcm'
    go_enter Tryd.func5, Tryd.ntmps5
    go_wp2_with fail
    refine HLA.out.mono ?_
    rintro e w0 ⟨rfl, rfl⟩
    go_wp2_with fail
    refine HLB.out.mono ?_
    rintro e w0 ⟨rfl, rfl⟩
    go_wp2_with fail
    refine (HKN.out _ (Keeps.refl _ _)).mono ?_
    rintro e w1 ⟨rfl, hk⟩
    have HK := Lib.hid hk
    clear hk
    go_wp2_with fail
    go_ret
    exact ⟨rfl, HK.out⟩
  | true =>
  rw [hlb] at HLB
  have hn20 : n ≤ 20 := by have := light_le hla; have := ha.1; omega
  have hm20 : m ≤ 20 := by have := light_le hlb; have := hb.1; omega
  have hva : DnV w A n c a := ⟨ha, hnc, hcm, by omega⟩
  have hvb : DnV w B m c' b := ⟨hb, hmc, hcm', by omega⟩
  have HRA := Lib.hid (fun X (hk : Keeps [] w X) => ralike_is A B n m c c' a b X (ha.grow hk) (hb.grow hk) (by omega) (by omega))
  have HA1 := Lib.hid (fun X (hk : Keeps [] w X) => alike6_is A B n m c c' a b X (ha.grow hk) (hb.grow hk) (by omega) (by omega))
  have HA2 := Lib.hid (fun X (hk : Keeps [] w X) => alike6_is B A m n c' c b a X (hb.grow hk) (ha.grow hk) (by omega) (by omega))
  have HB1 := Lib.hid (fun X (hk : Keeps [] w X) => below6_is A B n m c c' a b X (hva.grow hk) (hvb.grow hk))
  have HB2 := Lib.hid (fun X (hk : Keeps [] w X) => below6_is B A m n c' c b a X (hvb.grow hk) (hva.grow hk))
  have HB3 := Lib.hid (fun X (hk : Keeps [] w X) => below6_is A A n n c c a a X (hva.grow hk) (hva.grow hk))
  have HRB1 := Lib.hid (fun X (hk : Keeps [] w X) => rbelow_is A B n m c c' a b X (ha.grow hk) (hb.grow hk) (by omega) (by omega))
  have HRB2 := Lib.hid (fun X (hk : Keeps [] w X) => rbelow_is B A m n c' c b a X (hb.grow hk) (ha.grow hk) (by omega) (by omega))
  have HKA := Lib.hid (fun X (hk : Keeps [] w X) => key_is A n c a X (by omega) (ha.grow hk))
  have HKB := Lib.hid (fun X (hk : Keeps [] w X) => key_is B m c' b X (by omega) (hb.grow hk))
  have HRR1 := Lib.hid (fun X (hk : Keeps [] w X) => rright_is A n c a X (by omega) (ha.grow hk))
  have HRR2 := Lib.hid (fun X (hk : Keeps [] w X) => rright_is B m c' b X (by omega) (hb.grow hk))
  have hself : belowD a a = false := below_not (d := a) (j := 0) (k := 0) (Nat.le_refl _)
  rw [alike_comm a b] at HA2
  rw [hself] at HB3
  have hkey := fun h1 h2 => key_alike (a := a) (b := b) h1 h2
  generalize alikeD a b = al at *
  generalize belowD a b = be at *
  generalize belowD b a = be2 at *
  generalize smallL (dnT a) = x at *
  generalize smallL (dnT b) = y at *
  generalize nameOk a = na at *
  generalize nameOk b = nb at *
  clear ha hb hnc hcm hmc hcm' hva hvb hself hla hlb
  cases na <;> cases nb
  · clear hkey
    simp only [Bool.false_eq_true, if_false, if_true] at HKA HKB
    go_enter Tryd.func5, Tryd.ntmps5
    go_wp2_with fail
    refine HLA.out.mono ?_
    rintro e w0 ⟨rfl, rfl⟩
    go_wp2_with fail
    refine HLB.out.mono ?_
    rintro e w0 ⟨rfl, rfl⟩
    go_wp2_with fail
    refine (HRA.out _ (Keeps.refl [] w)).mono ?_
    rintro e w1 ⟨rfl, hk⟩
    have HS1 : Hid (Keeps [] w w1) := hk
    clear hk
    go_wp2_with fail
    refine (HA1.out _ HS1.out).mono ?_
    rintro e w2 ⟨rfl, hk⟩
    have HS2 : Hid (Keeps [] w w2) := HS1.out.trans' hk
    clear hk
    go_wp2_with fail
    refine (HA2.out _ HS2.out).mono ?_
    rintro e w3 ⟨rfl, hk⟩
    have HS3 : Hid (Keeps [] w w3) := HS2.out.trans' hk
    clear hk
    go_wp2_with fail
    refine (HB1.out _ HS3.out).mono ?_
    rintro e w4 ⟨rfl, hk⟩
    have HS4 : Hid (Keeps [] w w4) := HS3.out.trans' hk
    clear hk
    go_wp2_with fail
    refine (HRB1.out _ HS4.out).mono ?_
    rintro e w5 ⟨rfl, hk⟩
    have HS5 : Hid (Keeps [] w w5) := HS4.out.trans' hk
    clear hk
    go_wp2_with fail
    refine (HB2.out _ HS5.out).mono ?_
    rintro e w6 ⟨rfl, hk⟩
    have HS6 : Hid (Keeps [] w w6) := HS5.out.trans' hk
    clear hk
    go_wp2_with fail
    refine (HRB2.out _ HS6.out).mono ?_
    rintro e w7 ⟨rfl, hk⟩
    have HS7 : Hid (Keeps [] w w7) := HS6.out.trans' hk
    clear hk
    go_wp2_with fail
    refine (HB3.out _ HS7.out).mono ?_
    rintro e w8 ⟨rfl, hk⟩
    have HS8 : Hid (Keeps [] w w8) := HS7.out.trans' hk
    clear hk
    go_wp2_with fail
    refine (HKA.out _ HS8.out).mono ?_
    rintro e w9 ⟨rfl, hk⟩
    have HS9 : Hid (Keeps [] w w9) := HS8.out.trans' hk
    clear hk
    go_wp2_with fail
    refine (HKB.out _ HS9.out).mono ?_
    rintro e w10 ⟨rfl, hk⟩
    have HS10 : Hid (Keeps [] w w10) := HS9.out.trans' hk
    clear hk
    go_wp2_with fail
    refine (HRR1.out _ HS10.out).mono ?_
    rintro e w11 ⟨rfl, hk⟩
    have HS11 : Hid (Keeps [] w w11) := HS10.out.trans' hk
    clear hk
    go_wp2_with fail
    refine (HRR2.out _ HS11.out).mono ?_
    rintro e w12 ⟨rfl, hk⟩
    have HS12 : Hid (Keeps [] w w12) := HS11.out.trans' hk
    clear hk
    go_wp2_with fail
    refine (HKN.out _ HS12.out).mono ?_
    rintro e w13 ⟨rfl, hk⟩
    have HS13 : Hid (Keeps [] w w13) := HS12.out.trans' hk
    clear hk
    go_wp2_with fail
    go_ret
    exact ⟨rfl, HS13.out⟩
  · clear hkey
    simp only [Bool.false_eq_true, if_false, if_true] at HKA HKB
    go_enter Tryd.func5, Tryd.ntmps5
    go_wp2_with fail
    refine HLA.out.mono ?_
    rintro e w0 ⟨rfl, rfl⟩
    go_wp2_with fail
    refine HLB.out.mono ?_
    rintro e w0 ⟨rfl, rfl⟩
    go_wp2_with fail
    refine (HRA.out _ (Keeps.refl [] w)).mono ?_
    rintro e w1 ⟨rfl, hk⟩
    have HS1 : Hid (Keeps [] w w1) := hk
    clear hk
    go_wp2_with fail
    refine (HA1.out _ HS1.out).mono ?_
    rintro e w2 ⟨rfl, hk⟩
    have HS2 : Hid (Keeps [] w w2) := HS1.out.trans' hk
    clear hk
    go_wp2_with fail
    refine (HA2.out _ HS2.out).mono ?_
    rintro e w3 ⟨rfl, hk⟩
    have HS3 : Hid (Keeps [] w w3) := HS2.out.trans' hk
    clear hk
    go_wp2_with fail
    refine (HB1.out _ HS3.out).mono ?_
    rintro e w4 ⟨rfl, hk⟩
    have HS4 : Hid (Keeps [] w w4) := HS3.out.trans' hk
    clear hk
    go_wp2_with fail
    refine (HRB1.out _ HS4.out).mono ?_
    rintro e w5 ⟨rfl, hk⟩
    have HS5 : Hid (Keeps [] w w5) := HS4.out.trans' hk
    clear hk
    go_wp2_with fail
    refine (HB2.out _ HS5.out).mono ?_
    rintro e w6 ⟨rfl, hk⟩
    have HS6 : Hid (Keeps [] w w6) := HS5.out.trans' hk
    clear hk
    go_wp2_with fail
    refine (HRB2.out _ HS6.out).mono ?_
    rintro e w7 ⟨rfl, hk⟩
    have HS7 : Hid (Keeps [] w w7) := HS6.out.trans' hk
    clear hk
    go_wp2_with fail
    refine (HB3.out _ HS7.out).mono ?_
    rintro e w8 ⟨rfl, hk⟩
    have HS8 : Hid (Keeps [] w w8) := HS7.out.trans' hk
    clear hk
    go_wp2_with fail
    refine (HKA.out _ HS8.out).mono ?_
    rintro e w9 ⟨rfl, hk⟩
    have HS9 : Hid (Keeps [] w w9) := HS8.out.trans' hk
    clear hk
    go_wp2_with fail
    refine (HKB.out _ HS9.out).mono ?_
    rintro e w10 ⟨rfl, hk⟩
    have HS10 : Hid (Keeps [] w w10) := HS9.out.trans' hk
    clear hk
    go_wp2_with fail
    refine (HRR1.out _ HS10.out).mono ?_
    rintro e w11 ⟨rfl, hk⟩
    have HS11 : Hid (Keeps [] w w11) := HS10.out.trans' hk
    clear hk
    go_wp2_with fail
    refine (HRR2.out _ HS11.out).mono ?_
    rintro e w12 ⟨rfl, hk⟩
    have HS12 : Hid (Keeps [] w w12) := HS11.out.trans' hk
    clear hk
    go_wp2_with fail
    refine (HKN.out _ HS12.out).mono ?_
    rintro e w13 ⟨rfl, hk⟩
    have HS13 : Hid (Keeps [] w w13) := HS12.out.trans' hk
    clear hk
    go_wp2_with fail
    go_ret
    exact ⟨rfl, HS13.out⟩
  · clear hkey
    simp only [Bool.false_eq_true, if_false, if_true] at HKA HKB
    go_enter Tryd.func5, Tryd.ntmps5
    go_wp2_with fail
    refine HLA.out.mono ?_
    rintro e w0 ⟨rfl, rfl⟩
    go_wp2_with fail
    refine HLB.out.mono ?_
    rintro e w0 ⟨rfl, rfl⟩
    go_wp2_with fail
    refine (HRA.out _ (Keeps.refl [] w)).mono ?_
    rintro e w1 ⟨rfl, hk⟩
    have HS1 : Hid (Keeps [] w w1) := hk
    clear hk
    go_wp2_with fail
    refine (HA1.out _ HS1.out).mono ?_
    rintro e w2 ⟨rfl, hk⟩
    have HS2 : Hid (Keeps [] w w2) := HS1.out.trans' hk
    clear hk
    go_wp2_with fail
    refine (HA2.out _ HS2.out).mono ?_
    rintro e w3 ⟨rfl, hk⟩
    have HS3 : Hid (Keeps [] w w3) := HS2.out.trans' hk
    clear hk
    go_wp2_with fail
    refine (HB1.out _ HS3.out).mono ?_
    rintro e w4 ⟨rfl, hk⟩
    have HS4 : Hid (Keeps [] w w4) := HS3.out.trans' hk
    clear hk
    go_wp2_with fail
    refine (HRB1.out _ HS4.out).mono ?_
    rintro e w5 ⟨rfl, hk⟩
    have HS5 : Hid (Keeps [] w w5) := HS4.out.trans' hk
    clear hk
    go_wp2_with fail
    refine (HB2.out _ HS5.out).mono ?_
    rintro e w6 ⟨rfl, hk⟩
    have HS6 : Hid (Keeps [] w w6) := HS5.out.trans' hk
    clear hk
    go_wp2_with fail
    refine (HRB2.out _ HS6.out).mono ?_
    rintro e w7 ⟨rfl, hk⟩
    have HS7 : Hid (Keeps [] w w7) := HS6.out.trans' hk
    clear hk
    go_wp2_with fail
    refine (HB3.out _ HS7.out).mono ?_
    rintro e w8 ⟨rfl, hk⟩
    have HS8 : Hid (Keeps [] w w8) := HS7.out.trans' hk
    clear hk
    go_wp2_with fail
    refine (HKA.out _ HS8.out).mono ?_
    rintro e w9 ⟨rfl, hk⟩
    have HS9 : Hid (Keeps [] w w9) := HS8.out.trans' hk
    clear hk
    go_wp2_with fail
    refine (HKB.out _ HS9.out).mono ?_
    rintro e w10 ⟨rfl, hk⟩
    have HS10 : Hid (Keeps [] w w10) := HS9.out.trans' hk
    clear hk
    go_wp2_with fail
    refine (HRR1.out _ HS10.out).mono ?_
    rintro e w11 ⟨rfl, hk⟩
    have HS11 : Hid (Keeps [] w w11) := HS10.out.trans' hk
    clear hk
    go_wp2_with fail
    refine (HRR2.out _ HS11.out).mono ?_
    rintro e w12 ⟨rfl, hk⟩
    have HS12 : Hid (Keeps [] w w12) := HS11.out.trans' hk
    clear hk
    go_wp2_with fail
    refine (HKN.out _ HS12.out).mono ?_
    rintro e w13 ⟨rfl, hk⟩
    have HS13 : Hid (Keeps [] w w13) := HS12.out.trans' hk
    clear hk
    go_wp2_with fail
    go_ret
    exact ⟨rfl, HS13.out⟩
  · have hxy : (x == y) = al := hkey rfl rfl
    clear hkey
    simp only [Bool.false_eq_true, if_false, if_true] at HKA HKB
    go_enter Tryd.func5, Tryd.ntmps5
    go_wp2_with fail
    refine HLA.out.mono ?_
    rintro e w0 ⟨rfl, rfl⟩
    go_wp2_with fail
    refine HLB.out.mono ?_
    rintro e w0 ⟨rfl, rfl⟩
    go_wp2_with fail
    refine (HRA.out _ (Keeps.refl [] w)).mono ?_
    rintro e w1 ⟨rfl, hk⟩
    have HS1 : Hid (Keeps [] w w1) := hk
    clear hk
    go_wp2_with fail
    refine (HA1.out _ HS1.out).mono ?_
    rintro e w2 ⟨rfl, hk⟩
    have HS2 : Hid (Keeps [] w w2) := HS1.out.trans' hk
    clear hk
    go_wp2_with fail
    refine (HA2.out _ HS2.out).mono ?_
    rintro e w3 ⟨rfl, hk⟩
    have HS3 : Hid (Keeps [] w w3) := HS2.out.trans' hk
    clear hk
    go_wp2_with fail
    refine (HB1.out _ HS3.out).mono ?_
    rintro e w4 ⟨rfl, hk⟩
    have HS4 : Hid (Keeps [] w w4) := HS3.out.trans' hk
    clear hk
    go_wp2_with fail
    refine (HRB1.out _ HS4.out).mono ?_
    rintro e w5 ⟨rfl, hk⟩
    have HS5 : Hid (Keeps [] w w5) := HS4.out.trans' hk
    clear hk
    go_wp2_with fail
    refine (HB2.out _ HS5.out).mono ?_
    rintro e w6 ⟨rfl, hk⟩
    have HS6 : Hid (Keeps [] w w6) := HS5.out.trans' hk
    clear hk
    go_wp2_with fail
    refine (HRB2.out _ HS6.out).mono ?_
    rintro e w7 ⟨rfl, hk⟩
    have HS7 : Hid (Keeps [] w w7) := HS6.out.trans' hk
    clear hk
    go_wp2_with fail
    refine (HB3.out _ HS7.out).mono ?_
    rintro e w8 ⟨rfl, hk⟩
    have HS8 : Hid (Keeps [] w w8) := HS7.out.trans' hk
    clear hk
    go_wp2_with fail
    refine (HKA.out _ HS8.out).mono ?_
    rintro e w9 ⟨rfl, hk⟩
    have HS9 : Hid (Keeps [] w w9) := HS8.out.trans' hk
    clear hk
    go_wp2_with fail
    refine (HKB.out _ HS9.out).mono ?_
    rintro e w10 ⟨rfl, hk⟩
    have HS10 : Hid (Keeps [] w w10) := HS9.out.trans' hk
    clear hk
    go_wp2_with fail
    refine (HRR1.out _ HS10.out).mono ?_
    rintro e w11 ⟨rfl, hk⟩
    have HS11 : Hid (Keeps [] w w11) := HS10.out.trans' hk
    clear hk
    go_wp2_with fail
    refine (HRR2.out _ HS11.out).mono ?_
    rintro e w12 ⟨rfl, hk⟩
    have HS12 : Hid (Keeps [] w w12) := HS11.out.trans' hk
    clear hk
    go_wp2_with fail
    refine (HKN.out _ HS12.out).mono ?_
    rintro e w13 ⟨rfl, hk⟩
    have HS13 : Hid (Keeps [] w w13) := HS12.out.trans' hk
    clear hk
    go_wp2_with fail
    go_ret
    exact ⟨rfl, HS13.out⟩
theorem dnalike_any (A B : Option Addr) (n m c c' : Nat) (a b : List Part6) (w : World) (ha : DnIn w A n a) (hnc : n ≤ c) (hcm : c ≤ 9223372036854775807) (hb : DnIn w B m b) (hmc : m ≤ c') (hcm' : c' ≤ 9223372036854775807) (hs : SynAt w) :
    Calls Tryd.prog 5 #[.slice A n c, .slice B m c'] w fun e w' => e = .returned (.bool true) ∧ Below w.heap.size w w' :=
  (dnalike_keeps A B n m c c' a b w ha hnc hcm hb hmc hcm' hs).mono fun e w' ⟨he, hk⟩ => ⟨he, hk.below (Nat.le_refl _) (by simp)⟩

end Go.Proofs.YtjnibkgbcgpigaaDoor
