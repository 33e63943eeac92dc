
/- dn: the Value whose text it is; walked. -/
import Derived.Test.YtjnibkgbcgpigaaDoorN26
import Derived.Test.YtjnibkgbcgpigaaDoorN11
namespace Go.Proofs.YtjnibkgbcgpigaaDoor
open Go.RowKit Go.Shelf
set_option linter.unusedVariables false
set_option linter.unusedSimpArgs false
set_option maxRecDepth 100000

theorem behindL_lt {r r' : List UInt8} {x : UInt8} (h : behindL r = some (x, r')) : r'.length < r.length := by
  cases r with
  | nil => cases h
  | cons c r =>
    by_cases h0 : mark6 c.toNat = 0
    · cases r with
      | nil => simp [behindL, h0] at h
      | cons d r2 =>
        simp [behindL, h0] at h
        obtain ⟨N, _, _, rfl⟩ := h
        simp
        omega
    · simp [behindL, h0] at h
      obtain ⟨_, rfl⟩ := h
      simp

/-- The Value of what is left of a text of n bytes. -/
def valL (n : Nat) (rest : List UInt8) : Option (List UInt8) :=
  match rest with
  | [] => some []
  | c :: r =>
    if c = 92 then
      match h : behindL r with
      | none => none
      | some (x, r') => (valL n r').map (x :: ·)
    else if (plain1 c && !ask6 (mark6 c.toNat) (plc6 (n - (r.length + 1)) n)) = true then (valL n r).map (c :: ·) else none
termination_by rest.length
decreasing_by
  · have := behindL_lt h; simp; omega
  · simp

theorem valL_bs_none {n : Nat} {r : List UInt8} (h : behindL r = none) : valL n (92 :: r) = none := by
  rw [valL]
  simp only [if_true]
  split
  · rfl
  · rename_i h2; rw [h] at h2; cases h2
theorem valL_bs_some {n : Nat} {r r' : List UInt8} {x : UInt8} (h : behindL r = some (x, r')) : valL n (92 :: r) = (valL n r').map (x :: ·) := by
  rw [valL]
  simp only [if_true]
  split
  · rename_i h2; rw [h] at h2; cases h2
  · rename_i h2; rw [h] at h2; injection h2 with h2; injection h2 with h3 h4; subst h3 h4; rfl
theorem valL_yes {n : Nat} {r : List UInt8} {c : UInt8} (h : c ≠ 92) (h2 : (plain1 c && !ask6 (mark6 c.toNat) (plc6 (n - (r.length + 1)) n)) = true) : valL n (c :: r) = (valL n r).map (c :: ·) := by
  rw [valL, if_neg h, if_pos h2]
theorem valL_no {n : Nat} {r : List UInt8} {c : UInt8} (h : c ≠ 92) (h2 : (plain1 c && !ask6 (mark6 c.toNat) (plc6 (n - (r.length + 1)) n)) = false) : valL n (c :: r) = none := by
  rw [valL, if_neg h, if_neg (by rw [h2]; decide)]

/-- How far the text is read. -/
def ValI (T acc : List UInt8) (k : Nat) : Prop := k ≤ T.length ∧ acc.length ≤ k ∧ valL T.length T = (valL T.length (T.drop k)).map (acc ++ ·)
theorem ValI.start (T : List UInt8) : ValI T [] 0 := by
  refine ⟨by omega, by simp, ?_⟩
  cases h : valL T.length T <;> simp [h]
theorem ValI.bs_none {T acc : List UInt8} {k : Nat} (h : ValI T acc k) (hu : T[k]? = some 92) (hb : behindL (T.drop (k + 1)) = none) : valL T.length T = none := by
  rw [h.2.2, drop_at hu, valL_bs_none hb]
  rfl
theorem ValI.bs_some {T acc : List UInt8} {k q : Nat} {x : UInt8} (h : ValI T acc k) (hu : T[k]? = some 92) (hb : behindL (T.drop (k + 1)) = some (x, T.drop q)) (hq : q ≤ T.length) (hkq : k + 1 < q) : ValI T (acc ++ [x]) q := by
  refine ⟨hq, by have := h.2.1; simp; omega, ?_⟩
  rw [h.2.2, drop_at hu, valL_bs_some hb]
  cases valL T.length (T.drop q) <;> simp
theorem ValI.plc {T acc : List UInt8} {k : Nat} {u : UInt8} (hu : T[k]? = some u) : T.length - ((T.drop (k + 1)).length + 1) = k := by
  have := (List.getElem?_eq_some_iff.1 hu).1
  rw [List.length_drop]
  omega
theorem ValI.no {T acc : List UInt8} {k : Nat} {u : UInt8} (h : ValI T acc k) (hu : T[k]? = some u) (h1 : u ≠ 92) (h2 : (plain1 u && !ask6 (mark6 u.toNat) (plc6 k T.length)) = false) : valL T.length T = none := by
  rw [h.2.2, drop_at hu, valL_no h1 (by rw [ValI.plc (acc := acc) hu]; exact h2)]
  rfl
theorem ValI.yes {T acc : List UInt8} {k : Nat} {u : UInt8} (h : ValI T acc k) (hu : T[k]? = some u) (h1 : u ≠ 92) (h2 : (plain1 u && !ask6 (mark6 u.toNat) (plc6 k T.length)) = true) : ValI T (acc ++ [u]) (k + 1) := by
  have hk := (List.getElem?_eq_some_iff.1 hu).1
  refine ⟨by omega, by have := h.2.1; simp; omega, ?_⟩
  rw [h.2.2, drop_at hu, valL_yes h1 (by rw [ValI.plc (acc := acc) hu]; exact h2)]
  cases valL T.length (T.drop (k + 1)) <;> simp
theorem ValI.fin {T acc : List UInt8} {k : Nat} (h : ValI T acc k) (hk : T.length ≤ k) : valL T.length T = some acc := by
  rw [h.2.2, List.drop_of_length_le hk]
  simp [valL]

/-- What valueOf answers. -/
def ValQ (T : List UInt8) (w : World) (e : Ending) (w' : World) : Prop :=
  (∀ v, valL T.length T = some v → e = .returned (.string ⟨v.toArray⟩)) ∧ (valL T.length T = none → e = gaveUp 160) ∧ Keeps [] w w'

end Go.Proofs.YtjnibkgbcgpigaaDoor
