/- Texts of one proof, laid together: X8. -/
import Derived.Test.YtebocagkpkpghaaGreatDoorM91
import Derived.Test.YtebocagkpkpghaaGreatDoorM89
import Derived.Test.YtebocagkpkpghaaGreatDoorM87
import Derived.Test.YtebocagkpkpghaaGreatDoorM85
/- entry: EntryOrder; walked. -/
namespace Go.Proofs.YtebocagkpkpghaaGreatDoor
open Go.RowKit Go.Shelf
set_option linter.unusedVariables false
set_option linter.unusedSimpArgs false
set_option maxRecDepth 100000

theorem letr_low7 (c : UInt8) : letr1 (small1 c) = letr1 c := by
  have h := small1_nat c
  unfold letr1
  rw [h, Bool.eq_iff_iff]
  split <;> simp <;> omega
theorem nam_low7 (c : UInt8) : nam1 (small1 c) = nam1 c := by
  have h := small1_nat c
  unfold nam1
  rw [letr_low7, h, Bool.eq_iff_iff]
  unfold letr1
  split <;> simp <;> omega
theorem nameT_low7 (s : List UInt8) : nameT (smallL s) = nameT s := by
  have h1 : (smallL s).all nam1 = s.all nam1 := by
    unfold smallL
    rw [List.all_map]
    congr 1
    funext c
    exact nam_low7 c
  unfold nameT
  rw [h1, smallL_len]
  cases s with
  | nil => rfl
  | cons c r =>
    have h2 : (smallL (c :: r)).head? = some (small1 c) := rfl
    rw [h2]
    simp only [Option.map_some, Option.getD_some, List.head?_cons, letr_low7]
/-- An entry that may be, told by its parts. -/
theorem entOk_of {e : List Att} (h : NRise e) (hl : e.length ≤ 24) (ha : ∀ a ∈ e, 0 < a.2.length ∧ a.2.length ≤ 16 ∧ a.1 = smallL a.1 ∧ maybeA a.1 a.2 = true ∧ Rise a.2) : entOk e = true := by
  unfold entOk
  rw [Bool.and_eq_true, List.all_eq_true]
  constructor
  · intro a hm
    obtain ⟨h1, h2, h3, h4, h5⟩ := ha a hm
    unfold oneOk attrOk longN
    rw [h4, ordS_rise h5, ← h3]
    simp [h1]
    omega
  · have hr : Rise (namesT e) := by
      unfold Rise namesT
      rw [List.pairwise_map]
      exact h
    rw [ordS_rise hr]
    simp
theorem entOk_parts {e : List Att} (h : entOk e = true) : NRise e ∧ e.length ≤ 24 ∧ ∀ a ∈ e, 0 < a.2.length ∧ a.2.length ≤ 16 ∧ a.1 = smallL a.1 ∧ maybeA a.1 a.2 = true ∧ Rise a.2 := by
  obtain ⟨h1, h2⟩ := entOk_good h
  have h3 : ∀ a ∈ e, e.length ≤ 24 ∧ 0 < a.2.length ∧ a.2.length ≤ 16 ∧ maybeA a.1 a.2 = true := fun a ha => by
    unfold entOk at h
    rw [Bool.and_eq_true, List.all_eq_true] at h
    have := h.1 a ha
    unfold oneOk attrOk longN at this
    simp only [Bool.and_eq_true, Bool.not_eq_true', Bool.or_eq_false_iff, decide_eq_false_iff_not, decide_eq_true_eq] at this
    obtain ⟨⟨h5, h6⟩, h7, _, h8, _⟩ := this
    exact ⟨by omega, h7, by omega, h8⟩
  refine ⟨h1.1, ?_, fun a ha => ?_⟩
  · cases e with
    | nil => simp
    | cons a r => exact (h3 a (by simp)).1
  · obtain ⟨_, h5, h6, h7⟩ := h3 a ha
    exact ⟨h5, h6, (h2 a ha).1, h7, (h2 a ha).2⟩
theorem gath_mem {e : List Att} {k s : Txt} (h : s ∈ gath e k) : ∃ a ∈ e, smallL a.1 = k ∧ s ∈ a.2 := by
  unfold gath at h
  obtain ⟨a, ha, hs⟩ := List.mem_flatMap.1 h
  obtain ⟨h1, h2⟩ := List.mem_filter.1 ha
  exact ⟨a, h1, by simpa using h2, hs⟩
theorem orderP_few (e : List Att) : (orderP e).1.length ≤ 24 ∧ ∀ a ∈ (orderP e).1, a.2.length ≤ 16 := by
  unfold orderP
  split
  · split
    · simp
    · rename_i h
      have h2 : anyLong (ordE e) = false := by simpa using h
      unfold anyLong at h2
      rw [List.any_eq_false] at h2
      have h3 : ∀ a ∈ ordE e, (ordE e).length ≤ 24 ∧ a.2.length ≤ 16 := fun a ha => by
        have := h2 a ha
        unfold longN at this
        simp at this
        exact this
      refine ⟨?_, fun a ha => (h3 a ha).2⟩
      show (ordE e).length ≤ 24
      cases hE : ordE e with
      | nil => simp
      | cons a r => rw [← hE]; exact (h3 a (by rw [hE]; simp)).1
  · simp
theorem orderP_ok {e : List Att} (h : (orderP e).2 = 0) : entOk (orderP e).1 = true := by
  obtain ⟨h1, h2⟩ := orderP_few e
  unfold orderP at h h1 h2 ⊢
  split at h
  · rename_i ha
    rw [if_pos ha] at h1 h2 ⊢
    split at h
    · cases h
    · rename_i hl
      rw [if_neg hl] at h1 h2 ⊢
      rw [List.all_eq_true] at ha
      refine entOk_of (ordE_good e).1 h1 (fun a hm => ?_)
      have hne := (ordE_good e).2 a hm
      have hc := cont2_of (ordE_good e).1 hm
      rw [ordE_cont] at hc
      refine ⟨List.length_pos_iff.2 hne, h2 a hm, ?_, ?_, by rw [← hc]; exact (ordS_is _).1⟩
      · have hg : gath e a.1 ≠ [] := fun e2 => by rw [e2, ordS_none] at hc; exact hne hc.symm
        obtain ⟨b, hb, hba⟩ := List.mem_map.1 (gath_in hg)
        rw [← hba, smallL_idem]
      · have hg : gath e a.1 ≠ [] := fun e2 => by rw [e2, ordS_none] at hc; exact hne hc.symm
        obtain ⟨b, hb, hba⟩ := List.mem_map.1 (gath_in hg)
        have hmb := ha b hb
        unfold maybeA at hmb ⊢
        rw [Bool.and_eq_true] at hmb ⊢
        refine ⟨?_, by rw [← hba, nameT_low7]; exact hmb.2⟩
        rw [List.all_eq_true]
        intro s hs
        rw [← hc, (ordS_is _).2] at hs
        obtain ⟨x, hx, _, hsx⟩ := gath_mem hs
        have hmx := ha x hx
        unfold maybeA at hmx
        rw [Bool.and_eq_true, List.all_eq_true] at hmx
        exact hmx.1 s hsx
  · cases h
theorem EntQ.few {e : List Att} {w w' : World} {A : Option Addr} {n c m : Nat} (h : EntQ e w A n c w') (h1 : e.length ≤ m) (h2 : ∀ a ∈ e, a.2.length ≤ m) : ∃ L, ents L = e ∧ EntIn w' A n L ∧ Few7 m L := by
  obtain ⟨L, e1, e2, _, _, e5⟩ := h
  refine ⟨L, e1, e2, by rw [← ents_len, e1]; exact h1, fun a ha => ?_⟩
  rw [← e5 a ha]
  exact h2 a.att (by rw [← e1]; unfold ents; exact List.mem_map_of_mem ha)
theorem LightE.few {l : List At7} (h : LightE l) (m : Nat) (hm : 30 ≤ m) : Few7 m l := ⟨by have := h.1; omega, fun a ha => by have := (h.2 a ha).1; omega⟩

theorem cont2_len {E : List Att} {m : Nat} (h : ∀ a ∈ E, a.2.length ≤ m) (k : Txt) : (cont2 E k).length ≤ m := by
  by_cases hk : cont2 E k = []
  · rw [hk]; simp
  · exact h _ (cont2_ne hk)
set_option maxHeartbeats 8000000 in
theorem entryorder_any (A : Option Addr) (n c : Nat) (l : List At7) (v : Txt) (w : World) (h : EntIn w A n l) (hv : v.length ≤ 9223372036854775807) (hp : PowAt w) :
    Calls Tryz.prog 4 #[.slice A n c, tv v] w fun e w' => e = .returned (.bool true) ∧ Keeps [] w w' := by
  have HE1 := Lib.hid h
  have HLI := Lib.hid (light7_is A n c l w h)
  have HKN := Lib.hid (fun X (hX : Keeps [] w X) => known7_is X (hp.keep hX))
  have HVL := Lib.hid hv
  unfold tv
  clear h hp hv
  go_enter Tryz.func4, Tryz.ntmps4
  go_wp2_with fail
  refine HLI.out.mono ?_
  rintro e w1 ⟨r1, rfl, hr1, rfl⟩
  have HR1 := Lib.hid hr1
  clear hr1
  cases r1
  · go_wp2_with fail
    refine (HKN.out _ (Keeps.refl _ _)).mono ?_
    rintro e w2 ⟨rfl, hk2⟩
    have HK2 := Lib.hid hk2
    clear hk2
    go_wp2_with fail
    go_ret
    exact ⟨rfl, HK2.out⟩
  · by_cases h2 : 200 < v.length
    · have h2' : (200 : Int) < (v.length : Int) := by omega
      go_wp2_with fail
      refine (HKN.out _ (Keeps.refl _ _)).mono ?_
      rintro e w2 ⟨rfl, hk2⟩
      have HK2 := Lib.hid hk2
      clear hk2
      go_wp2_with fail
      go_ret
      exact ⟨rfl, HK2.out⟩
    · have h2' : ¬ (200 : Int) < (v.length : Int) := by omega
      have hl1 : LightE l := HR1.out (by first | exact trivial | rfl)
      have HOR := Lib.hid (order_is A n c l w HE1.out (hl1.few 1000 (by omega)))
      have HRO := Lib.hid (fun X (hX : Keeps [] w X) => rorder_is A n c l X (EntIn.grow hX HE1.out) (hl1.few 100 (by omega)))
      obtain ⟨hf1, hf2⟩ := orderP_few (ents l)
      have HOK := Lib.hid (orderP_ok (e := ents l))
      obtain ⟨P, hP⟩ : ∃ P, orderP (ents l) = P := ⟨_, rfl⟩
      rw [hP] at HOR HRO HOK hf1 hf2
      obtain ⟨E, no⟩ := P
      dsimp only at HOK hf1 hf2
      have HFW : Hid (E.length ≤ 24 ∧ ∀ a ∈ E, a.2.length ≤ 16) := ⟨hf1, hf2⟩
      clear hl1 hP hf1 hf2
      go_wp2_with fail
      refine HOR.out.mono ?_
      rintro e w3 ⟨A3, n3, c3, rfl, hQ3, hk3⟩
      have HQ3 : Hid (EntQ E w A3 n3 c3 w3) := hQ3
      have HK3 := Lib.hid hk3
      clear hQ3 hk3
      go_wp2_with fail
      refine (HRO.out _ HK3.out).mono ?_
      rintro e w4 ⟨A4, n4, c4, rfl, hQ4, hk4⟩
      replace hQ4 : EntQ E w3 A4 n4 c4 w4 := hQ4
      obtain ⟨L3, e3, i3, f3⟩ := HQ3.out.few (m := 1000) (by have := HFW.out.1; omega) (fun a ha => by have := HFW.out.2 a ha; omega)
      obtain ⟨L4, e4, i4, f4⟩ := hQ4.few (m := 1000) (by have := HFW.out.1; omega) (fun a ha => by have := HFW.out.2 a ha; omega)
      have HK4 := Lib.hid hk4
      have HI3 : Hid (EntIn w4 A3 n3 L3) := EntIn.grow hk4 i3
      have HI4 := Lib.hid i4
      have HF3 : Hid (Few7 100000 L3) := ⟨by have := f3.1; omega, fun a ha => by have := f3.2 a ha; omega⟩
      have HF4 : Hid (Few7 100000 L4) := ⟨by have := f4.1; omega, fun a ha => by have := f4.2 a ha; omega⟩
      have HSR := Lib.hid (rsame7_is A3 A4 n3 c3 n4 c4 L3 L4 w4 HI3.out HI4.out HF3.out)
      have HCK := Lib.hid (fun X (hX : Keeps [] w4 X) => check7_is A3 n3 c3 L3 X (EntIn.grow hX HI3.out) HF3.out)
      have HGT := Lib.hid (fun X (hX : Keeps [] w4 X) => get_is A3 n3 c3 L3 v X (EntIn.grow hX HI3.out) HF3.out HVL.out)
      have HRG := Lib.hid (fun X (hX : Keeps [] w4 X) => rget_is A4 n4 c4 L4 v X (EntIn.grow hX HI4.out) (by rw [← HI4.out.1]; exact HF4.out.1) HVL.out)
      rw [e3, e4] at HSR
      rw [e3] at HCK HGT
      rw [e4] at HRG
      have hself : (E == E) = true := by simp
      rw [hself] at HSR
      have hnoi : ((no : Int) != (no : Int)) = false := by simp
      clear e3 e4 i3 i4 f3 f4 hQ4 hk4 hself
      go_wp2_with fail
      refine HSR.out.mono ?_
      rintro e w5 ⟨rfl, hk5⟩
      have HK5 := Lib.hid hk5
      clear hk5 hnoi HSR HOR HRO
      by_cases h0 : no = 0
      · subst h0
        have hok : entOk E = true := HOK.out rfl
        rw [hok] at HCK
        simp only [if_true] at HCK
        clear hok
        obtain ⟨vs, hvs⟩ : ∃ vs, cont2 E (smallL v) = vs := ⟨_, rfl⟩
        have HVN : Hid (vs.length ≤ 16) := by show _ ≤ _; rw [← hvs]; exact cont2_len HFW.out.2 _
        rw [hvs] at HGT HRG
        clear hvs
        go_wp2_with fail
        refine (HCK.out _ HK5.out).mono ?_
        rintro e w6 ⟨rfl, hk6⟩
        have HK6 := Lib.hid (HK5.out.trans' hk6)
        clear hk6
        go_wp2_with fail
        refine (HGT.out _ HK6.out).mono ?_
        rintro e w7 ⟨A7, c7, rfl, ho7, hk7⟩
        have HK7 := Lib.hid (HK6.out.trans' hk7)
        have HK77 := Lib.hid hk7
        have HO7 := Lib.hid ho7
        clear ho7 hk7
        go_wp2_with fail
        refine (HRG.out _ HK7.out).mono ?_
        rintro e w8 ⟨A8, c8, rfl, hs8, hc8, hd8, hk8⟩
        have hs7 : StrsIn w8 A7 vs.length vs := StrsIn.of_own (own_keep HO7.out hk8 (by simp)) rfl hs8.2.1
        have hvn : vs.length ≤ 4611686018427387904 := by have := HVN.out; omega
        have HTX := Lib.hid (rtexts_is A7 A8 vs.length vs.length c7 c8 vs vs w8 hs7 hs8 hvn)
        have hself : (vs == vs) = true := by simp
        rw [hself] at HTX
        have HK8 := Lib.hid (HK7.out.trans' hk8)
        clear hs8 hc8 hd8 hk8 hs7 hvn hself
        go_wp2_with fail
        refine HTX.out.mono ?_
        rintro e w9 ⟨rfl, hk9⟩
        have HK9 := Lib.hid (HK3.out.trans' (HK4.out.trans' (HK8.out.trans' hk9)))
        clear hk9
        go_wp2_with fail
        refine (HKN.out _ HK9.out).mono ?_
        rintro e w10 ⟨rfl, hk10⟩
        have HK10 := Lib.hid (HK9.out.trans' hk10)
        clear hk10
        go_wp2_with fail
        go_ret
        exact ⟨rfl, HK10.out⟩
      · have h0' : ¬ (no : Int) = 0 := by omega
        have h0b : ((no : Int) != 0) = true := by simpa using h0
        have HK9 := Lib.hid (HK3.out.trans' (HK4.out.trans' HK5.out))
        go_wp2_with fail
        refine (HKN.out _ HK9.out).mono ?_
        rintro e w10 ⟨rfl, hk10⟩
        have HK10 := Lib.hid (HK9.out.trans' hk10)
        clear hk10
        go_wp2_with fail
        go_ret
        exact ⟨rfl, HK10.out⟩
end Go.Proofs.YtebocagkpkpghaaGreatDoor
