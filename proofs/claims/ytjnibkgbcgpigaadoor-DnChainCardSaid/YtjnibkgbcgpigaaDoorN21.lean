
/- dn: texts cut, as words. -/
import Derived.Test.YtjnibkgbcgpigaaDoorN17
namespace Go.Proofs.YtjnibkgbcgpigaaDoor
open Go.RowKit Go.Shelf
set_option linter.unusedVariables false
set_option linter.unusedSimpArgs false
set_option maxRecDepth 100000

/-- What stands ahead of the next of a byte that has no backslash ahead, and what stands behind it, if there is one. -/
def cutL (at_ : UInt8) : List UInt8 → List UInt8 × Option (List UInt8)
  | [] => ([], none)
  | [c] => if c = at_ then ([], some []) else ([c], none)
  | c :: e :: r =>
    if c = at_ then ([], some (e :: r))
    else if c = 92 then (c :: e :: (cutL at_ r).1, (cutL at_ r).2)
    else (c :: (cutL at_ (e :: r)).1, (cutL at_ (e :: r)).2)

theorem cutL_at (a : UInt8) (r : List UInt8) : cutL a (a :: r) = ([], some r) := by
  cases r <;> simp [cutL]
theorem cutL_bs (a e : UInt8) (r : List UInt8) (h : (92 : UInt8) ≠ a) : cutL a (92 :: e :: r) = (92 :: e :: (cutL a r).1, (cutL a r).2) := by
  simp [cutL, h]
theorem cutL_one (a c : UInt8) (h : c ≠ a) : cutL a [c] = ([c], none) := by simp [cutL, h]
theorem cutL_more (a c : UInt8) (r : List UInt8) (h : c ≠ a) (h2 : c ≠ 92) : cutL a (c :: r) = (c :: (cutL a r).1, (cutL a r).2) := by
  cases r with
  | nil => simp [cutL, h]
  | cons e r => rw [cutL]; simp [h, h2]
theorem cutL_all (a : UInt8) (xs : List UInt8) : (cutL a xs).2 = none → (cutL a xs).1 = xs := by
  fun_induction cutL a xs with
  | case1 => simp
  | case2 => simp
  | case3 c h => simp
  | case4 e r => simp
  | case5 e r h ih => intro h2; simp [ih h2]
  | case6 c e r h h2 ih => intro h3; simp [ih h3]
theorem cutL_some (a : UInt8) (xs r : List UInt8) : (cutL a xs).2 = some r → xs = (cutL a xs).1 ++ a :: r := by
  fun_induction cutL a xs with
  | case1 => simp
  | case2 => intro h2; simp at h2; simp [h2]
  | case3 c h => simp
  | case4 e r => intro h2; simp at h2; simp [h2]
  | case5 e r h ih => intro h2; simp [← ih h2]
  | case6 c e r h h2 ih => intro h3; simp [← ih h3]

/-- How far the text is gone through. -/
def CutI (at_ : UInt8) (T : List UInt8) (f k : Nat) : Prop :=
  f ≤ k ∧ k ≤ T.length + 1 ∧ cutL at_ (T.drop f) = ((T.drop f).take (k - f) ++ (cutL at_ (T.drop k)).1, (cutL at_ (T.drop k)).2)
theorem CutI.start (a : UInt8) (T : List UInt8) (f : Nat) (h : f ≤ T.length) : CutI a T f f := ⟨Nat.le_refl _, by omega, by simp⟩
theorem take_more {T : List UInt8} {f k : Nat} {u : UInt8} (hfk : f ≤ k) (hu : T[k]? = some u) : (T.drop f).take (k - f) ++ [u] = (T.drop f).take (k + 1 - f) := by
  rw [show k + 1 - f = (k - f) + 1 by omega, List.take_add_one, List.getElem?_drop, show f + (k - f) = k by omega, hu]
  rfl
theorem drop_at {T : List UInt8} {k : Nat} {u : UInt8} (hu : T[k]? = some u) : T.drop k = u :: T.drop (k + 1) := by
  obtain ⟨hk, rfl⟩ := List.getElem?_eq_some_iff.1 hu
  exact List.drop_eq_getElem_cons hk
theorem CutI.next {a : UInt8} {T : List UInt8} {f k : Nat} {u : UInt8} (h : CutI a T f k) (hu : T[k]? = some u) (h1 : u ≠ a) (h2 : u ≠ 92) : CutI a T f (k + 1) := by
  obtain ⟨h3, h4, h5⟩ := h
  have hk := (List.getElem?_eq_some_iff.1 hu).1
  refine ⟨by omega, by omega, ?_⟩
  rw [h5, drop_at hu, cutL_more a u _ h1 h2, ← take_more h3 hu]
  simp
theorem CutI.over {a : UInt8} {T : List UInt8} {f k : Nat} (h : CutI a T f k) (hu : T[k]? = some 92) (h1 : (92 : UInt8) ≠ a) : CutI a T f (k + 2) := by
  obtain ⟨h3, h4, h5⟩ := h
  have hk := (List.getElem?_eq_some_iff.1 hu).1
  refine ⟨by omega, by omega, ?_⟩
  rw [h5, drop_at hu]
  cases he : T[k + 1]? with
  | none =>
    have hn : T.length ≤ k + 1 := List.getElem?_eq_none_iff.1 he
    have hd : T.drop (k + 1) = [] := List.drop_of_length_le hn
    have hd2 : T.drop (k + 2) = [] := List.drop_of_length_le (by omega)
    rw [hd, hd2, cutL_one a 92 h1]
    have h9 : (T.drop f).take (k - f) ++ [92] = (T.drop f).take (k + 2 - f) := by
      rw [take_more h3 hu, List.take_of_length_le (by rw [List.length_drop]; omega), List.take_of_length_le (by rw [List.length_drop]; omega)]
    rw [h9]
    simp [cutL]
  | some e =>
    rw [drop_at he, cutL_bs a e _ h1, ← take_more (k := k + 1) (by omega) he, ← take_more h3 hu]
    simp
theorem CutI.found {a : UInt8} {T : List UInt8} {f k : Nat} (h : CutI a T f k) (hu : T[k]? = some a) : cutL a (T.drop f) = ((T.drop f).take (k - f), some (T.drop (k + 1))) := by
  rw [h.2.2, drop_at hu, cutL_at]
  simp
theorem CutI.none {a : UInt8} {T : List UInt8} {f k : Nat} (h : CutI a T f k) (hk : T.length ≤ k) : cutL a (T.drop f) = (T.drop f, none) := by
  have h9 := h.2.2
  rw [List.drop_of_length_le hk] at h9
  rw [h9, List.take_of_length_le (by rw [List.length_drop]; omega)]
  simp [cutL]

theorem str_cut (T : List UInt8) (i j : Nat) (h : i ≤ j) (hj : j ≤ T.length) (W : World) : (Instr.slice 9 (.string ⟨T.toArray⟩) (some (.int .i64 (i : Int))) (some (.int .i64 (j : Int))) none).run Tryd.prog W = .ok (.string ⟨((T.drop i).take (j - i)).toArray⟩) W := by
  rw [run_slice_string W 9 ⟨T.toArray⟩ .i64 .i64 (i : Int) (j : Int) Tryd.underlying9 (by omega) (by omega) (by show (j : Int) ≤ (T.length : Int); omega)]
  rw [show ((i : Int)).toNat = i by omega, show ((j : Int)).toNat = j by omega, ByteArray.extract_mk]
theorem str_from (T : List UInt8) (i : Nat) (hi : i ≤ T.length) (W : World) : (Instr.slice 9 (.string ⟨T.toArray⟩) (some (.int .i64 (i : Int))) none none).run Tryd.prog W = .ok (.string ⟨(T.drop i).toArray⟩) W := by
  rw [run_slice_string_from_if W 9 ⟨T.toArray⟩ .i64 (i : Int) Tryd.underlying9, if_pos ⟨by omega, by show (i : Int) ≤ (T.length : Int); omega⟩]
  rw [show ((i : Int)).toNat = i by omega, ByteArray.extract_mk]
  congr 2
  show ByteArray.mk (List.take (T.length - i) (T.drop i)).toArray = _
  rw [List.take_of_length_le (by rw [List.length_drop]; omega)]

end Go.Proofs.YtjnibkgbcgpigaaDoor
