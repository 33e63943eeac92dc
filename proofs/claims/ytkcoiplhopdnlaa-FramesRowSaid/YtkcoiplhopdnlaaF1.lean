/- Frames, as lists of bytes. -/
import Derived.Test.YtkcoiplhopdnlaaK9
namespace Go.Proofs.Ytkcoiplhopdnlaa
open Go.RowKit
set_option linter.unusedVariables false

/-- The number of the first four bytes, the lowest ahead. -/
def num4 (xs : List UInt8) : Nat := (xs[0]?.getD 0).toNat + 256 * (xs[1]?.getD 0).toNat + 65536 * (xs[2]?.getD 0).toNat + 16777216 * (xs[3]?.getD 0).toNat
/-- A number's four bytes. -/
def four (n : Nat) : List UInt8 := [UInt8.ofNat n, UInt8.ofNat (n / 256), UInt8.ofNat (n / 65536), UInt8.ofNat (n / 16777216)]

theorem four_len (n : Nat) : (four n).length = 4 := rfl
theorem num4_lt (xs : List UInt8) : num4 xs < 4294967296 := by
  have h0 := (xs[0]?.getD 0).toNat_lt
  have h1 := (xs[1]?.getD 0).toNat_lt
  have h2 := (xs[2]?.getD 0).toNat_lt
  have h3 := (xs[3]?.getD 0).toNat_lt
  unfold num4
  omega
theorem num4_four {n : Nat} (h : n < 4294967296) (xs : List UInt8) : num4 (four n ++ xs) = n := by
  simp only [num4, four, List.cons_append, List.nil_append, List.getElem?_cons_zero, List.getElem?_cons_succ, Option.getD_some, UInt8.toNat_ofNat']
  omega

/-- The record that bytes begin with, if they begin with a frame. -/
def recOf (xs : List UInt8) : List UInt8 := (xs.drop 8).take (num4 xs - 1)
/-- Do bytes begin with a frame? -/
def framed (xs : List UInt8) : Bool :=
  decide (8 ≤ xs.length) && (decide (1 ≤ num4 xs ∧ num4 xs ≤ 32769) && (decide (num4 (xs.drop 4) = 4294967295 - num4 xs) && (decide (num4 xs + 11 ≤ xs.length) && decide (num4 (xs.drop (7 + num4 xs)) = crcSum (recOf xs)))))
/-- A record's frame. -/
def frameOf (r : List UInt8) : List UInt8 := four (r.length + 1) ++ (four (4294967295 - (r.length + 1)) ++ (r ++ four (crcSum r)))

theorem framed_iff {xs : List UInt8} : framed xs = true ↔ 8 ≤ xs.length ∧ 1 ≤ num4 xs ∧ num4 xs ≤ 32769 ∧ num4 (xs.drop 4) = 4294967295 - num4 xs ∧ num4 xs + 11 ≤ xs.length ∧ num4 (xs.drop (7 + num4 xs)) = crcSum (recOf xs) := by
  simp only [framed, Bool.and_eq_true, decide_eq_true_eq]
  constructor
  · rintro ⟨a, ⟨b, c⟩, d, e, f⟩; exact ⟨a, b, c, d, e, f⟩
  · rintro ⟨a, b, c, d, e, f⟩; exact ⟨a, ⟨b, c⟩, d, e, f⟩

theorem recOf_len {xs : List UInt8} (h : framed xs = true) : (recOf xs).length = num4 xs - 1 ∧ (recOf xs).length + 12 ≤ xs.length ∧ num4 xs = (recOf xs).length + 1 := by
  obtain ⟨a, b, c, d, e, f⟩ := framed_iff.1 h
  have : (recOf xs).length = num4 xs - 1 := by
    unfold recOf
    rw [List.length_take, List.length_drop]
    omega
  omega

theorem crcSum_lt (l : List UInt8) : crcSum l < 4294967296 := by unfold crcSum; omega
theorem frameOf_len (r : List UInt8) : (frameOf r).length = r.length + 12 := by
  simp [frameOf, four_len]
  omega
theorem frameOf_num {r : List UInt8} (h : r.length ≤ 32768) (s : List UInt8) : num4 (frameOf r ++ s) = r.length + 1 := by
  unfold frameOf
  rw [List.append_assoc]
  exact num4_four (by omega) _
theorem frameOf_rec {r : List UInt8} (h : r.length ≤ 32768) (s : List UInt8) : recOf (frameOf r ++ s) = r := by
  unfold recOf
  rw [frameOf_num h]
  have e : frameOf r ++ s = (four (r.length + 1) ++ four (4294967295 - (r.length + 1))) ++ (r ++ (four (crcSum r) ++ s)) := by simp [frameOf]
  rw [e, List.drop_left' (by simp [four_len]), Nat.add_sub_cancel, List.take_left' rfl]
theorem frameOf_framed {r : List UInt8} (h : r.length ≤ 32768) (s : List UInt8) : framed (frameOf r ++ s) = true := by
  rw [framed_iff]
  rw [frameOf_num h, frameOf_rec h]
  refine ⟨by rw [List.length_append, frameOf_len]; omega, by omega, by omega, ?_, by rw [List.length_append, frameOf_len]; omega, ?_⟩
  · have e : frameOf r ++ s = four (r.length + 1) ++ (four (4294967295 - (r.length + 1)) ++ (r ++ (four (crcSum r) ++ s))) := by simp [frameOf]
    rw [e, List.drop_left' (four_len _)]
    exact num4_four (by omega) _
  · have e : frameOf r ++ s = (four (r.length + 1) ++ (four (4294967295 - (r.length + 1)) ++ r)) ++ (four (crcSum r) ++ s) := by simp [frameOf]
    rw [e, List.drop_left' (by simp [four_len]; omega)]
    exact num4_four (crcSum_lt r) _

/-- The records of some bytes. -/
def recsN : Nat → List UInt8 → List (List UInt8)
  | 0, _ => []
  | n + 1, xs => if framed xs then recOf xs :: recsN n (xs.drop ((recOf xs).length + 12)) else []
def recs (xs : List UInt8) : List (List UInt8) := recsN xs.length xs
/-- How many bytes the frames of records have. -/
def offs (l : List (List UInt8)) : Nat := (l.map fun r => r.length + 12).sum

theorem recsN_any : ∀ (n m : Nat) (xs : List UInt8), xs.length ≤ n → xs.length ≤ m → recsN n xs = recsN m xs
  | 0, 0, _, _, _ => rfl
  | 0, m + 1, xs, h, _ => by
    have : framed xs = false := by
      rw [Bool.eq_false_iff]
      intro hf
      have := (framed_iff.1 hf).1
      omega
    simp [recsN, this]
  | n + 1, 0, xs, _, h => by
    have : framed xs = false := by
      rw [Bool.eq_false_iff]
      intro hf
      have := (framed_iff.1 hf).1
      omega
    simp [recsN, this]
  | n + 1, m + 1, xs, h, h' => by
    by_cases hf : framed xs = true
    · simp only [recsN, hf, if_true]
      rw [recsN_any n m]
      · rw [List.length_drop]; omega
      · rw [List.length_drop]; omega
    · simp [recsN, hf]

theorem recs_cons {xs : List UInt8} (h : framed xs = true) : recs xs = recOf xs :: recs (xs.drop ((recOf xs).length + 12)) := by
  have h8 := (framed_iff.1 h).1
  unfold recs
  rw [recsN_any xs.length (xs.length + 1) xs (Nat.le_refl _) (by omega)]
  simp only [recsN, h, if_true]
  rw [recsN_any xs.length _ _ (by rw [List.length_drop]; omega) (Nat.le_refl _)]
theorem recs_nil {xs : List UInt8} (h : framed xs = false) : recs xs = [] := by
  unfold recs
  cases hn : xs.length with
  | zero => rfl
  | succ n => simp [recsN, h]

theorem offs_snoc (l : List (List UInt8)) (r : List UInt8) : offs (l ++ [r]) = offs l + (r.length + 12) := by simp [offs]
theorem offs_cons (l : List (List UInt8)) (r : List UInt8) : offs (r :: l) = (r.length + 12) + offs l := by simp [offs]

/-- What stands behind the first records. -/
theorem recs_at (xs : List UInt8) : ∀ k, k ≤ (recs xs).length → offs ((recs xs).take k) ≤ xs.length ∧ recs (xs.drop (offs ((recs xs).take k))) = (recs xs).drop k := by
  intro k
  induction k with
  | zero => intro _; simp [offs]
  | succ k ih =>
    intro hk
    obtain ⟨h1, h2⟩ := ih (by omega)
    have hr : (recs xs).drop k = (recs xs)[k] :: (recs xs).drop (k + 1) := (List.drop_eq_getElem_cons (by omega))
    rw [hr] at h2
    have hf : framed (xs.drop (offs ((recs xs).take k))) = true := by
      cases hc : framed (xs.drop (offs ((recs xs).take k)))
      · rw [recs_nil hc] at h2; cases h2
      · rfl
    have hl := recOf_len hf
    rw [recs_cons hf] at h2
    injection h2 with h3 h4
    have ht : (recs xs).take (k + 1) = (recs xs).take k ++ [(recs xs)[k]] := List.take_succ_eq_append_getElem (by omega)
    rw [ht, offs_snoc, ← h3]
    rw [List.length_drop] at hl
    rw [List.drop_drop] at h4
    exact ⟨by omega, h4⟩

/-- At the k'th place there stands the k'th record's frame; behind the last one there is none. -/
theorem recs_some {xs : List UInt8} {k : Nat} (hk : k < (recs xs).length) : framed (xs.drop (offs ((recs xs).take k))) = true ∧ recOf (xs.drop (offs ((recs xs).take k))) = (recs xs)[k] ∧ offs ((recs xs).take (k + 1)) = offs ((recs xs).take k) + ((recs xs)[k].length + 12) := by
  obtain ⟨h1, h2⟩ := recs_at xs k (by omega)
  have hr : (recs xs).drop k = (recs xs)[k] :: (recs xs).drop (k + 1) := (List.drop_eq_getElem_cons (by omega))
  rw [hr] at h2
  have hf : framed (xs.drop (offs ((recs xs).take k))) = true := by
    cases hc : framed (xs.drop (offs ((recs xs).take k)))
    · rw [recs_nil hc] at h2; cases h2
    · rfl
  rw [recs_cons hf] at h2
  injection h2 with h3 h4
  refine ⟨hf, h3, ?_⟩
  rw [List.take_succ_eq_append_getElem hk, offs_snoc]
theorem recs_none (xs : List UInt8) : framed (xs.drop (offs (recs xs))) = false := by
  have := (recs_at xs (recs xs).length (Nat.le_refl _)).2
  rw [List.take_length, List.drop_length] at this
  cases hc : framed (xs.drop (offs (recs xs)))
  · rfl
  · rw [recs_cons hc] at this; cases this
theorem offs_le (xs : List UInt8) (k : Nat) : offs ((recs xs).take k) ≤ xs.length := by
  by_cases hk : k ≤ (recs xs).length
  · exact (recs_at xs k hk).1
  · rw [List.take_of_length_le (by omega)]
    have := (recs_at xs _ (Nat.le_refl _)).1
    rwa [List.take_length] at this
theorem recs_short {xs : List UInt8} {r : List UInt8} (h : r ∈ recs xs) : r.length ≤ 32768 := by
  obtain ⟨i, hi, rfl⟩ := List.mem_iff_getElem.1 h
  obtain ⟨hf, h2, _⟩ := recs_some hi
  rw [← h2]
  have := recOf_len hf
  have := (framed_iff.1 hf).2.2.1
  omega

/-- Frames, one behind the other, and what stands behind them. -/
def joinF (l : List (List UInt8)) : List UInt8 := l.flatMap frameOf
theorem joinF_len (l : List (List UInt8)) : (joinF l).length = offs l := by
  induction l with
  | nil => rfl
  | cons r l ih => rw [offs_cons, ← ih, joinF, List.flatMap_cons, List.length_append, frameOf_len]; rfl
theorem recs_joinF : ∀ (l : List (List UInt8)) (s : List UInt8), (∀ r ∈ l, r.length ≤ 32768) → recs (joinF l ++ s) = l ++ recs s
  | [], s, _ => rfl
  | r :: l, s, h => by
    have e : joinF (r :: l) ++ s = frameOf r ++ (joinF l ++ s) := by simp [joinF]
    have hr := h r (by simp)
    rw [e, recs_cons (frameOf_framed hr _), frameOf_rec hr, List.drop_left' (frameOf_len r), recs_joinF l s (fun x hx => h x (by simp [hx]))]
    rfl
theorem recs_noughts (n : Nat) : recs (List.replicate n 0) = [] := by
  apply recs_nil
  rw [Bool.eq_false_iff]
  intro hf
  have h := (framed_iff.1 hf).2.1
  have hz : ∀ i : Nat, ((List.replicate n (0 : UInt8))[i]?.getD 0) = 0 := by
    intro i
    by_cases hi : i < n
    · simp [hi]
    · rw [List.getElem?_eq_none (by simpa using hi)]; rfl
  unfold num4 at h
  rw [hz, hz, hz, hz] at h
  simp at h

end Go.Proofs.Ytkcoiplhopdnlaa
