/- Texts of one proof, laid together: X8. -/
import Derived.Test.YtfjlcfbomlfpfaaDoorM91
import Derived.Test.YtfjlcfbomlfpfaaDoorM89
import Derived.Test.YtfjlcfbomlfpfaaDoorM87
import Derived.Test.YtfjlcfbomlfpfaaDoorM85
/- entry: EntryOrder; walked. -/
namespace Go.Proofs.YtfjlcfbomlfpfaaDoor
open Go.RowKit Go.Shelf
set_option linter.unusedVariables false
set_option linter.unusedSimpArgs false
set_option maxRecDepth 100000

theorem letr_low7 (c : UInt8) : letr1 (small1 c) = letr1 c := by
  have h := small1_nat c
  unfold letr1
  rw [h, Bool.eq_iff_iff]
  split <;> simp <;> omega
theorem nam_low7 (c : UInt8) : nam1 (small1 c) = nam1 c := by
  have h := small1_nat c
  unfold nam1
  rw [letr_low7, h, Bool.eq_iff_iff]
  unfold letr1
  split <;> simp <;> omega
theorem nameT_low7 (s : List UInt8) : nameT (smallL s) = nameT s := by
  have h1 : (smallL s).all nam1 = s.all nam1 := by
    unfold smallL
    rw [List.all_map]
    congr 1
    funext c
    exact nam_low7 c
  unfold nameT
  rw [h1, smallL_len]
  cases s with
  | nil => rfl
  | cons c r =>
    have h2 : (smallL (c :: r)).head? = some (small1 c) := rfl
    rw [h2]
    simp only [Option.map_some, Option.getD_some, List.head?_cons, letr_low7]
/-- An entry that may be, told by its parts. -/
theorem entOk_of {e : List Att} (h : NRise e) (hl : e.length ≤ 24) (ha : ∀ a ∈ e, 0 < a.2.length ∧ a.2.length ≤ 16 ∧ a.1 = smallL a.1 ∧ maybeA a.1 a.2 = true ∧ Rise a.2) : entOk e = true := by
  unfold entOk
  rw [Bool.and_eq_true, List.all_eq_true]
  constructor
  · intro a hm
    obtain ⟨h1, h2, h3, h4, h5⟩ := ha a hm
    unfold oneOk attrOk longN
    rw [h4, ordS_rise h5, ← h3]
    simp [h1]
    omega
  · have hr : Rise (namesT e) := by
      unfold Rise namesT
      rw [List.pairwise_map]
      exact h
    rw [ordS_rise hr]
    simp
theorem entOk_parts {e : List Att} (h : entOk e = true) : NRise e ∧ e.length ≤ 24 ∧ ∀ a ∈ e, 0 < a.2.length ∧ a.2.length ≤ 16 ∧ a.1 = smallL a.1 ∧ maybeA a.1 a.2 = true ∧ Rise a.2 := by
  obtain ⟨h1, h2⟩ := entOk_good h
  have h3 : ∀ a ∈ e, e.length ≤ 24 ∧ 0 < a.2.length ∧ a.2.length ≤ 16 ∧ maybeA a.1 a.2 = true := fun a ha => by
    unfold entOk at h
    rw [Bool.and_eq_true, List.all_eq_true] at h
    have := h.1 a ha
    unfold oneOk attrOk longN at this
    simp only [Bool.and_eq_true, Bool.not_eq_true', Bool.or_eq_false_iff, decide_eq_false_iff_not, decide_eq_true_eq] at this
    obtain ⟨⟨h5, h6⟩, h7, _, h8, _⟩ := this
    exact ⟨by omega, h7, by omega, h8⟩
  refine ⟨h1.1, ?_, fun a ha => ?_⟩
  · cases e with
    | nil => simp
    | cons a r => exact (h3 a (by simp)).1
  · obtain ⟨_, h5, h6, h7⟩ := h3 a ha
    exact ⟨h5, h6, (h2 a ha).1, h7, (h2 a ha).2⟩
theorem gath_mem {e : List Att} {k s : Txt} (h : s ∈ gath e k) : ∃ a ∈ e, smallL a.1 = k ∧ s ∈ a.2 := by
  unfold gath at h
  obtain ⟨a, ha, hs⟩ := List.mem_flatMap.1 h
  obtain ⟨h1, h2⟩ := List.mem_filter.1 ha
  exact ⟨a, h1, by simpa using h2, hs⟩
theorem orderP_few (e : List Att) : (orderP e).1.length ≤ 24 ∧ ∀ a ∈ (orderP e).1, a.2.length ≤ 16 := by
  unfold orderP
  split
  · split
    · simp
    · rename_i h
      have h2 : anyLong (ordE e) = false := by simpa using h
      unfold anyLong at h2
      rw [List.any_eq_false] at h2
      have h3 : ∀ a ∈ ordE e, (ordE e).length ≤ 24 ∧ a.2.length ≤ 16 := fun a ha => by
        have := h2 a ha
        unfold longN at this
        simp at this
        exact this
      refine ⟨?_, fun a ha => (h3 a ha).2⟩
      show (ordE e).length ≤ 24
      cases hE : ordE e with
      | nil => simp
      | cons a r => rw [← hE]; exact (h3 a (by rw [hE]; simp)).1
  · simp
theorem orderP_ok {e : List Att} (h : (orderP e).2 = 0) : entOk (orderP e).1 = true := by
  obtain ⟨h1, h2⟩ := orderP_few e
  unfold orderP at h h1 h2 ⊢
  split at h
  · rename_i ha
    rw [if_pos ha] at h1 h2 ⊢
    split at h
    · cases h
    · rename_i hl
      rw [if_neg hl] at h1 h2 ⊢
      rw [List.all_eq_true] at ha
      refine entOk_of (ordE_good e).1 h1 (fun a hm => ?_)
      have hne := (ordE_good e).2 a hm
      have hc := cont2_of (ordE_good e).1 hm
      rw [ordE_cont] at hc
      refine ⟨List.length_pos_iff.2 hne, h2 a hm, ?_, ?_, by rw [← hc]; exact (ordS_is _).1⟩
      · have hg : gath e a.1 ≠ [] := fun e2 => by rw [e2, ordS_none] at hc; exact hne hc.symm
        obtain ⟨b, hb, hba⟩ := List.mem_map.1 (gath_in hg)
        rw [← hba, smallL_idem]
      · have hg : gath e a.1 ≠ [] := fun e2 => by rw [e2, ordS_none] at hc; exact hne hc.symm
        obtain ⟨b, hb, hba⟩ := List.mem_map.1 (gath_in hg)
        have hmb := ha b hb
        unfold maybeA at hmb ⊢
        rw [Bool.and_eq_true] at hmb ⊢
        refine ⟨?_, by rw [← hba, nameT_low7]; exact hmb.2⟩
        rw [List.all_eq_true]
        intro s hs
        rw [← hc, (ordS_is _).2] at hs
        obtain ⟨x, hx, _, hsx⟩ := gath_mem hs
        have hmx := ha x hx
        unfold maybeA at hmx
        rw [Bool.and_eq_true, List.all_eq_true] at hmx
        exact hmx.1 s hsx
  · cases h
theorem EntQ.few {e : List Att} {w w' : World} {A : Option Addr} {n c m : Nat} (h : EntQ e w A n c w') (h1 : e.length ≤ m) (h2 : ∀ a ∈ e, a.2.length ≤ m) : ∃ L, ents L = e ∧ EntIn w' A n L ∧ Few7 m L := by
  obtain ⟨L, e1, e2, _, _, e5⟩ := h
  refine ⟨L, e1, e2, by rw [← ents_len, e1]; exact h1, fun a ha => ?_⟩
  rw [← e5 a ha]
  exact h2 a.att (by rw [← e1]; unfold ents; exact List.mem_map_of_mem ha)
theorem LightE.few {l : List At7} (h : LightE l) (m : Nat) (hm : 30 ≤ m) : Few7 m l := ⟨by have := h.1; omega, fun a ha => by have := (h.2 a ha).1; omega⟩

theorem cont2_len {E : List Att} {m : Nat} (h : ∀ a ∈ E, a.2.length ≤ m) (k : Txt) : (cont2 E k).length ≤ m := by
  by_cases hk : cont2 E k = []
  · rw [hk]; simp
  · exact h _ (cont2_ne hk)
end Go.Proofs.YtfjlcfbomlfpfaaDoor
