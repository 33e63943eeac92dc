
/- entry: texts that rise, as words. -/
import Derived.Lib.SlicesCompact
import Derived.Test.YtbfebljahjmjfaaGreatDoorN1
namespace Go.Proofs.YtbfebljahjmjfaaGreatDoor
open Go.RowKit Go.Shelf
set_option linter.unusedVariables false
set_option linter.unusedSimpArgs false

abbrev Txt := List UInt8
theorem tx_irr (a : Txt) : ¬ a < a := List.lt_irrefl a
theorem tx_tr {a b c : Txt} (h : a < b) (h2 : b < c) : a < c := List.lt_trans h h2
theorem tx_tot (a b : Txt) : a ≤ b ∨ b ≤ a := List.le_total a b
theorem tx_anti {a b : Txt} (h : a ≤ b) (h2 : b ≤ a) : a = b := List.le_antisymm h h2
theorem tx_letr {a b c : Txt} (h : a ≤ b) (h2 : b ≤ c) : a ≤ c := List.le_trans h h2
theorem tx_le {a b : Txt} (h : a < b) : a ≤ b := List.le_of_lt h
theorem tx_lt {a b : Txt} (h : a ≤ b) (h2 : a ≠ b) : a < b := by
  rcases Decidable.em (a < b) with h3 | h3
  · exact h3
  · exact absurd (tx_anti h (List.not_lt.1 h3)) h2
theorem tx_ne {a b : Txt} (h : a < b) : a ≠ b := fun e => tx_irr b (by rw [e] at h; exact h)
theorem tx_not {a b : Txt} (h : ¬ a < b) : b ≤ a := List.not_lt.1 h
theorem tx_lelt {a b c : Txt} (h : a ≤ b) (h2 : b < c) : a < c := by
  rcases Decidable.em (a = b) with e | e
  · rw [e]; exact h2
  · exact tx_tr (tx_lt h e) h2

/-- Texts that rise, no two the same. -/
def Rise (l : List Txt) : Prop := l.Pairwise (· < ·)
theorem rise_same : ∀ {l m : List Txt}, Rise l → Rise m → (∀ x, x ∈ l ↔ x ∈ m) → l = m
  | [], [], _, _, _ => rfl
  | [], b :: m, _, _, h => absurd ((h b).2 (by simp)) (by simp)
  | a :: l, [], _, _, h => absurd ((h a).1 (by simp)) (by simp)
  | a :: l, b :: m, hl, hm, h => by
    have hl' := List.pairwise_cons.1 hl
    have hm' := List.pairwise_cons.1 hm
    have hab : a = b := by
      have h1 := (h a).1 (by simp)
      have h2 := (h b).2 (by simp)
      simp only [List.mem_cons] at h1 h2
      rcases h1 with h1 | h1
      · exact h1
      · rcases h2 with h2 | h2
        · exact h2.symm
        · exact absurd (tx_tr (hl'.1 b h2) (hm'.1 a h1)) (tx_irr a)
    subst hab
    rw [rise_same hl'.2 hm'.2 (fun x => ?_)]
    constructor
    · intro hx
      have h1 := (h x).1 (List.mem_cons_of_mem _ hx)
      simp only [List.mem_cons] at h1
      rcases h1 with h1 | h1
      · exact absurd (hl'.1 x hx) (by rw [h1]; exact tx_irr a)
      · exact h1
    · intro hx
      have h1 := (h x).2 (List.mem_cons_of_mem _ hx)
      simp only [List.mem_cons] at h1
      rcases h1 with h1 | h1
      · exact absurd (hm'.1 x hx) (by rw [h1]; exact tx_irr a)
      · exact h1
theorem rise_nodup {l : List Txt} (h : Rise l) : l.Nodup := h.imp fun {a b} hab => tx_ne hab

/-- Texts sorted, each once. -/
def ordS (l : List Txt) : List Txt := Go.Lib.compact (l.mergeSort fun a b => decide (a ≤ b))
theorem sort_le (l : List Txt) : (l.mergeSort fun a b => decide (a ≤ b)).Pairwise (· ≤ ·) := by
  have h := List.pairwise_mergeSort (le := fun a b : Txt => decide (a ≤ b)) (fun a b c h1 h2 => by simp only [decide_eq_true_eq] at *; exact tx_letr h1 h2) (fun a b => by simp only [Bool.or_eq_true, decide_eq_true_eq]; exact tx_tot a b) l
  exact h.imp fun {a b} hab => by simpa using hab
theorem compact_upto (d : Array Txt) (hd : d.toList.Pairwise (· ≤ ·)) : ∀ m, m ≤ d.size → (Rise (Go.Lib.compactUpTo d m) ∧ ∀ x, x ∈ Go.Lib.compactUpTo d m ↔ x ∈ d.toList.take m) ∧ ∀ (j : Nat), j + 1 = m → ∀ x ∈ Go.Lib.compactUpTo d m, x ≤ d[j]!
  | 0, _ => by
    refine ⟨⟨List.Pairwise.nil, fun x => by simp [Go.Lib.compactUpTo]⟩, fun j h => by omega⟩
  | m + 1, hm => by
    obtain ⟨⟨h1, h2⟩, h3⟩ := compact_upto d hd m (by omega)
    have hget : d[m]! = d.toList[m]'(by simp; omega) := by rw [getElem!_pos d m (by omega)]; simp
    have htk : d.toList.take (m + 1) = d.toList.take m ++ [d[m]!] := by rw [List.take_add_one, List.getElem?_eq_getElem (by simp; omega), hget]; rfl
    have hle : ∀ x ∈ d.toList.take m, x ≤ d[m]! := fun x hx => by
      obtain ⟨i, hi, rfl⟩ := List.mem_take_iff_getElem.1 hx
      rw [hget]
      exact List.pairwise_iff_getElem.1 hd i m (by omega) (by simp; omega) (by omega)
    rw [Go.Lib.compactUpTo_succ]
    cases hk : Go.Lib.keeps d m with
    | true =>
      simp only [if_true]
      refine ⟨⟨?_, fun x => by rw [htk, List.mem_append, List.mem_append, h2 x]⟩, fun j hj x hx => ?_⟩
      · unfold Rise
        rw [List.pairwise_append]
        refine ⟨h1, by simp, fun x hx y hy => ?_⟩
        simp only [List.mem_singleton] at hy
        subst hy
        cases m with
        | zero => simp [Go.Lib.compactUpTo] at hx
        | succ j =>
          have hxj := h3 j rfl x hx
          have hne : d[j + 1]! ≠ d[j]! := by simpa [Go.Lib.keeps] using hk
          have hjm : d[j]! ≤ d[j + 1]! := hle _ (by
            rw [List.mem_take_iff_getElem]
            exact ⟨j, by simp; omega, by rw [getElem!_pos d j (by omega)]; simp⟩)
          exact tx_lelt hxj (tx_lt hjm (fun e => hne e.symm))
      · obtain rfl : j = m := by omega
        rcases List.mem_append.1 hx with hx | hx
        · exact hle x ((h2 x).1 hx)
        · simp only [List.mem_singleton] at hx
          rw [hx]
          exact List.le_refl _
    | false =>
      simp only [Bool.false_eq_true, if_false, List.append_nil]
      have hkf : m ≠ 0 ∧ d[m]! = d[m - 1]! := by
        simp only [Go.Lib.keeps, decide_eq_false_iff_not, not_or, Decidable.not_not, ne_eq] at hk
        exact hk
      refine ⟨⟨h1, fun x => ?_⟩, fun j hj x hx => ?_⟩
      · rw [htk, List.mem_append, h2 x]
        constructor
        · exact .inl
        · rintro (h | h)
          · exact h
          · simp only [List.mem_singleton] at h
            rw [h, hkf.2, List.mem_take_iff_getElem]
            exact ⟨m - 1, by simp; omega, by rw [getElem!_pos d (m - 1) (by omega)]; simp⟩
      · obtain rfl : j = m := by omega
        exact hle x ((h2 x).1 hx)
theorem ordS_is (l : List Txt) : Rise (ordS l) ∧ ∀ x, x ∈ ordS l ↔ x ∈ l := by
  obtain ⟨⟨h1, h2⟩, _⟩ := compact_upto (l.mergeSort fun a b => decide (a ≤ b)).toArray (by simpa using sort_le l) (l.mergeSort fun a b => decide (a ≤ b)).length (by simp)
  refine ⟨h1, fun x => ?_⟩
  have h3 := h2 x
  simp only [List.take_length] at h3
  unfold ordS Go.Lib.compact
  rw [h3]
  exact List.mem_mergeSort
theorem ordS_rise {l : List Txt} (h : Rise l) : ordS l = l := rise_same (ordS_is l).1 h (ordS_is l).2
theorem ordS_nodup {l : List Txt} (h : l.Nodup) : (ordS l).length = l.length :=
  ((List.perm_ext_iff_of_nodup (rise_nodup (ordS_is l).1) h).2 (ordS_is l).2).length_eq
theorem ordS_len (l : List Txt) : (ordS l).length ≤ l.length :=
  List.Nodup.length_le_of_subset (rise_nodup (ordS_is l).1) (fun x hx => ((ordS_is l).2 x).1 hx)
theorem ordS_dup {l : List Txt} (h : ¬ l.Nodup) : (ordS l).length < l.length := by
  induction l with
  | nil => exact absurd List.nodup_nil h
  | cons a r ih =>
    rw [List.nodup_cons] at h
    by_cases ha : a ∈ r
    · have h1 : (ordS (a :: r)).length ≤ r.length := List.Nodup.length_le_of_subset (rise_nodup (ordS_is _).1) (fun x hx => by
        have h2 := ((ordS_is (a :: r)).2 x).1 hx
        simp only [List.mem_cons] at h2
        rcases h2 with h2 | h2
        · rw [h2]; exact ha
        · exact h2)
      simp only [List.length_cons]
      omega
    · have h1 := ih (fun h2 => h ⟨ha, h2⟩)
      have h2 : (ordS (a :: r)).length ≤ (a :: ordS r).length := List.Nodup.length_le_of_subset (rise_nodup (ordS_is _).1) (fun x hx => by
        have h2 := ((ordS_is (a :: r)).2 x).1 hx
        simp only [List.mem_cons] at h2 ⊢
        rcases h2 with h2 | h2
        · exact .inl h2
        · exact .inr (((ordS_is r).2 x).2 h2))
      simp only [List.length_cons] at h2 ⊢
      omega
end Go.Proofs.YtbfebljahjmjfaaGreatDoor
