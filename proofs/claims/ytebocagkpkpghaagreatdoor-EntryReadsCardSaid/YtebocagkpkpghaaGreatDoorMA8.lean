/- Texts of one proof, laid together: Y18 Y19. -/
import Derived.Test.YtebocagkpkpghaaGreatDoorMA7
import Derived.Test.YtebocagkpkpghaaGreatDoorM87
import Derived.BigQuiet
import Derived.Test.YtebocagkpkpghaaGreatDoorMA6
import Derived.Test.YtebocagkpkpghaaGreatDoorM93
/- entry: the law EntryReads; walked. -/
namespace Go.Proofs.YtebocagkpkpghaaGreatDoor
open Go.RowKit Go.Shelf
set_option linter.unusedVariables false
set_option linter.unusedSimpArgs false
set_option maxRecDepth 100000

theorem readD_ok {s : Txt} {E : List Att} (h : readD s = some E) : entOk E = true := by
  unfold readD at h
  split at h
  · cases h
  · split at h
    · injection h with h
      rw [← h]
      assumption
    · cases h
set_option maxHeartbeats 8000000 in
theorem entryreads_any (s : Txt) (w : World) (hs : s.length ≤ 9223372036854775807) (hN : NumW w) :
    Calls Tryz.prog 7 #[tv s] w fun e w' => e = .returned (.bool true) ∧ Keeps [] w w' := by
  have HKN := Lib.hid (fun X (hX : Keeps [] w X) => known7_is X (hN.pow.keep hX))
  obtain ⟨n, hn⟩ : ∃ n, s.length = n := ⟨_, rfl⟩
  have hls : (⟨s.toArray⟩ : ByteArray).size = n := hn
  by_cases h3 : 3000 < n
  · have h3i : (3000 : Int) < (n : Int) := by omega
    unfold tv
    go_enter Tryz.func7, Tryz.ntmps7
    go_wp2_with fail
    refine (HKN.out _ (Keeps.refl _ _)).mono ?_
    rintro e w2 ⟨rfl, hk2⟩
    have HK2 := Lib.hid hk2
    clear hk2
    go_wp2_with fail
    go_ret
    exact ⟨rfl, HK2.out⟩
  · have h3i : ¬ (3000 : Int) < (n : Int) := by omega
    have HRP := Lib.hid (read_is s w (by omega) (fun e he => by
      obtain ⟨h1, h2⟩ := attsL_few (N := 100000) _ he (by simp) (by show s.length + 1 ≤ _; omega)
      simp at h1
      exact ⟨by omega, h2⟩) hN)
    have HRD := Lib.hid (fun X => rread_is s X (by omega))
    rw [read_same] at HRP
    have HOK := Lib.hid (fun E => readD_ok (s := s) (E := E))
    generalize readD s = D at HRP HRD HOK
    unfold tv at HRP HRD ⊢
    clear hn
    cases D with
    | none =>
      dsimp only at HRP
      go_enter Tryz.func7, Tryz.ntmps7
      go_wp2_with fail
      refine HRP.out.mono ?_
      rintro e w3 ⟨A3, n3, c3, rfl, ⟨L3, e1, e2, _⟩, hk3⟩
      obtain rfl : n3 = 0 := by
        rw [← e2.1, ← ents_len, e1]
        rfl
      have HK3 := Lib.hid hk3
      clear hk3 e1 e2
      go_wp2_with fail
      refine (HRD.out _).mono ?_
      rintro e w4 ⟨A4, n4, c4, rfl, _, hk4⟩
      have HK4 := Lib.hid (HK3.out.trans' hk4)
      clear hk4
      go_wp2_with fail
      refine (HKN.out _ HK4.out).mono ?_
      rintro e w5 ⟨rfl, hk5⟩
      have HK5 := Lib.hid (HK4.out.trans' hk5)
      clear hk5
      go_wp2_with fail
      go_ret
      exact ⟨rfl, HK5.out⟩
    | some E =>
      dsimp only at HRP
      have hok := HOK.out E rfl
      obtain ⟨_, hp1, hp2⟩ := entOk_parts hok
      have HP1 := Lib.hid hp1
      have HP2 := Lib.hid hp2
      clear hok hp1 hp2
      go_enter Tryz.func7, Tryz.ntmps7
      go_wp2_with fail
      refine HRP.out.mono ?_
      rintro e w3 ⟨A3, n3, c3, rfl, hQ3, hk3⟩
      have HQ3 : Hid (EntQ E w A3 n3 c3 w3) := hQ3
      have HK3 := Lib.hid hk3
      clear hk3 hQ3
      go_wp2_with fail
      refine (HRD.out _).mono ?_
      rintro e w4 ⟨A4, n4, c4, rfl, hQ4, hk4⟩
      replace hQ4 : EntQ E w3 A4 n4 c4 w4 := hQ4
      obtain ⟨L3, e3, i3, f3⟩ := HQ3.out.few (m := 100000) (by have := HP1.out; omega) (fun a ha => by have := (HP2.out a ha).2.1; omega)
      obtain ⟨L4, e4, i4, f4⟩ := hQ4.few (m := 100000) (by have := HP1.out; omega) (fun a ha => by have := (HP2.out a ha).2.1; omega)
      have HSR := Lib.hid (rsame7_is A3 A4 n3 c3 n4 c4 L3 L4 w4 (EntIn.grow hk4 i3) i4 f3)
      have hself : (E == E) = true := by simp
      rw [e3, e4, hself] at HSR
      have HK4 := Lib.hid (HK3.out.trans' hk4)
      clear hk4 e3 e4 i3 i4 f3 f4 hQ4 hself
      go_wp2_with fail
      refine HSR.out.mono ?_
      rintro e w5 ⟨rfl, hk5⟩
      have HK5 := Lib.hid (HK4.out.trans' hk5)
      clear hk5
      go_wp2_with fail
      refine (HKN.out _ HK5.out).mono ?_
      rintro e w6 ⟨rfl, hk6⟩
      have HK6 := Lib.hid (HK5.out.trans' hk6)
      clear hk6
      go_wp2_with fail
      go_ret
      exact ⟨rfl, HK6.out⟩
end Go.Proofs.YtebocagkpkpghaaGreatDoor
/- entry: the law EntryTexts; walked. -/
namespace Go.Proofs.YtebocagkpkpghaaGreatDoor
open Go.RowKit Go.Shelf
set_option linter.unusedVariables false
set_option linter.unusedSimpArgs false
set_option maxRecDepth 100000

theorem textE_bound {e : List Att} (h : entOk e = true) : (textE e).length ≤ 2000000 := by
  obtain ⟨_, h1, h2⟩ := entOk_parts h
  have hv : ∀ a ∈ e, ∀ v ∈ a.2, (lineV v).length ≤ 2060 := fun a ha v hv => by
    have h3 := (h2 a ha).2.2.2.1
    unfold maybeA at h3
    rw [Bool.and_eq_true] at h3
    have h4 := List.all_eq_true.1 h3.1 v hv
    unfold valOk at h4
    rw [Bool.and_eq_true, decide_eq_true_eq, decide_eq_true_eq] at h4
    have h5 := dec_len 3 v.length (by rw [show (10 : Nat) ^ (3 + 1) = 10000 by decide]; omega)
    unfold lineV
    simp only [List.length_append, List.length_cons, List.length_nil]
    omega
  have ha : ∀ a ∈ e, (attT a).length ≤ 40000 := fun a ha => by
    obtain ⟨h3, h4, _, h5, _⟩ := h2 a ha
    have h6 := flat_len (f := lineV) (m := 2060) (l := a.2) (hv a ha)
    have h7 : a.2.length * 2060 ≤ 16 * 2060 := Nat.mul_le_mul_right _ h4
    have h8 := dec_len 3 a.2.length (by rw [show (10 : Nat) ^ (3 + 1) = 10000 by decide]; omega)
    unfold maybeA at h5
    rw [Bool.and_eq_true] at h5
    have h9 := h5.2
    unfold nameT at h9
    simp only [Bool.and_eq_true, decide_eq_true_eq] at h9
    have h10 := h9.2.1
    unfold attT lineN
    simp only [List.length_append, List.length_cons, List.length_nil]
    omega
  have h6 := flat_len (f := attT) (m := 40000) (l := e) ha
  have h7 : e.length * 40000 ≤ 24 * 40000 := Nat.mul_le_mul_right _ h1
  show (e.flatMap attT).length ≤ _
  omega
theorem attsL_text {e : List Att} (h : entOk e = true) : attsL ((textE e).length + 1) [] (textE e, false) = some e := by
  obtain ⟨_, _, hp⟩ := entOk_parts h
  exact rattsD_yes _ (rattsD_text e [] ((textE e).length + 1) (by have := textE_len e; omega) (fun a ha => ⟨(hp a ha).1, (hp a ha).2.1, (hp a ha).2.2.2.1⟩))
set_option maxHeartbeats 8000000 in
theorem entrytexts_any (A : Option Addr) (n c : Nat) (l : List At7) (w : World) (h : EntIn w A n l) (hN : NumW w) :
    Calls Tryz.prog 6 #[.slice A n c] w fun e w' => e = .returned (.bool true) ∧ Keeps [] w w' := by
  have HE1 := Lib.hid h
  have HLI := Lib.hid (light7_is A n c l w h)
  have HKN := Lib.hid (fun X (hX : Keeps [] w X) => known7_is X (hN.pow.keep hX))
  have HNW := Lib.hid hN
  clear h hN
  go_enter Tryz.func6, Tryz.ntmps6
  go_wp2_with fail
  refine HLI.out.mono ?_
  rintro e w1 ⟨r1, rfl, hr1, rfl⟩
  have HR1 := Lib.hid hr1
  clear hr1
  cases r1
  · go_wp2_with fail
    refine (HKN.out _ (Keeps.refl _ _)).mono ?_
    rintro e w2 ⟨rfl, hk2⟩
    have HK2 := Lib.hid hk2
    clear hk2
    go_wp2_with fail
    go_ret
    exact ⟨rfl, HK2.out⟩
  · have hl1 : LightE l := HR1.out (by first | exact trivial | rfl)
    have HFW : Hid (Few7 1000 l) := hl1.few 1000 (by omega)
    have HLE : Hid (∀ a ∈ l, a.name.length ≤ 1000000 ∧ ∀ s ∈ a.vs, s.length ≤ 1000000) := fun a ha => ⟨by have := (hl1.2 a ha).2.1; omega, fun s hs => by have := (hl1.2 a ha).2.2 s hs; omega⟩
    have HTX := Lib.hid (text7_is A n c l w HE1.out HFW.out HLE.out HNW.out.pow)
    have HRR := Lib.hid (fun X (hX : Keeps [] w X) => rright7_is A n c l X (EntIn.grow hX HE1.out) (hl1.few 100000 (by omega)))
    have HRT := Lib.hid (fun X (hX : Keeps [] w X) => rtext_is A n c l X (EntIn.grow hX HE1.out) HFW.out HLE.out)
    clear hl1 HLI HR1
    cases hq : entOk (ents l) with
    | false =>
      rw [hq] at HRR
      have hp : textP (ents l) = ([], 2) := by unfold textP; rw [hq]; rfl
      rw [hp] at HTX
      clear hp hq
      go_wp2_with fail
      refine HTX.out.mono ?_
      rintro e w3 ⟨rfl, hk3⟩
      have HK3 := Lib.hid hk3
      clear hk3
      go_wp2_with fail
      refine (HRR.out _ HK3.out).mono ?_
      rintro e w4 ⟨rfl, hk4⟩
      have HK4 := Lib.hid (HK3.out.trans' hk4)
      clear hk4
      go_wp2_with fail
      refine (HKN.out _ HK4.out).mono ?_
      rintro e w5 ⟨rfl, hk5⟩
      have HK5 := Lib.hid (HK4.out.trans' hk5)
      clear hk5
      go_wp2_with fail
      go_ret
      exact ⟨rfl, HK5.out⟩
    | true =>
      rw [hq] at HRR
      have hp : textP (ents l) = (textE (ents l), 0) := by unfold textP; rw [hq]; rfl
      rw [hp] at HTX
      have HRP := Lib.hid (fun X (hX : Keeps [] w X) => read_is (textE (ents l)) X (textE_bound hq) (fun e he => by
        rw [attsL_text hq] at he
        injection he with he
        rw [← he]
        obtain ⟨_, h1, h2⟩ := entOk_parts hq
        exact ⟨by omega, fun a ha => by have := (h2 a ha).2.1; omega⟩) ⟨HNW.out.pow.keep hX, HNW.out.syn.keep hX (by simp), HNW.out.rng.keep hX (by simp)⟩)
      rw [read_text hq] at HRP
      obtain ⟨_, hp1, hp2⟩ := entOk_parts hq
      have HP1 := Lib.hid hp1
      have HP2 := Lib.hid hp2
      generalize textE (ents l) = tx at HTX HRP HRT
      obtain ⟨hss1, hss2, hss3⟩ := tx_beq tx tx true (by simp)
      unfold tv at HRP HRT
      clear hp hq hp1 hp2
      go_wp2_with fail
      refine HTX.out.mono ?_
      rintro e w3 ⟨rfl, hk3⟩
      have HK3 := Lib.hid hk3
      clear hk3
      go_wp2_with fail
      refine (HRR.out _ HK3.out).mono ?_
      rintro e w4 ⟨rfl, hk4⟩
      have HK4 := Lib.hid (HK3.out.trans' hk4)
      clear hk4
      go_wp2_with fail
      refine (HRP.out _ HK4.out).mono ?_
      rintro e w5 ⟨A5, n5, c5, rfl, hQ5, hk5⟩
      have HQ5 : Hid (EntQ (ents l) w4 A5 n5 c5 w5) := hQ5
      have HK5 := Lib.hid (HK4.out.trans' hk5)
      clear hk5 hQ5
      go_wp2_with fail
      refine (HRT.out _ HK5.out).mono ?_
      rintro e w6 ⟨rfl, hk6⟩
      have HK6 := Lib.hid (HK5.out.trans' hk6)
      obtain ⟨L5, e5, i5, f5⟩ := HQ5.out.few (m := 100000) (by have := HP1.out; omega) (fun a ha => by have := (HP2.out a ha).2.1; omega)
      have HSR := Lib.hid (rsame7_is A5 A n5 c5 n c L5 l w6 (EntIn.grow hk6 i5) (EntIn.grow HK6.out HE1.out) f5)
      have hself : (ents l == ents l) = true := by simp
      rw [e5, hself] at HSR
      clear hk6 e5 i5 f5 hself
      go_wp2_with fail
      refine HSR.out.mono ?_
      rintro e w7 ⟨rfl, hk7⟩
      have HK7 := Lib.hid (HK6.out.trans' hk7)
      clear hk7
      go_wp2_with fail
      refine (HKN.out _ HK7.out).mono ?_
      rintro e w8 ⟨rfl, hk8⟩
      have HK8 := Lib.hid (HK7.out.trans' hk8)
      clear hk8
      go_wp2_with fail
      go_ret
      exact ⟨rfl, HK8.out⟩
end Go.Proofs.YtebocagkpkpghaaGreatDoor
