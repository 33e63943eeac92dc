/- Texts of one proof, laid together: N45. -/
import Derived.Test.YtmgkejgmkfeccaaDoorM26
import Derived.Test.YtmgkejgmkfeccaaDoorM08
import Derived.Test.YtmgkejgmkfeccaaDoorM20
import Derived.Test.YtmgkejgmkfeccaaDoorM12
/- dn: the document's Text; walked. -/
namespace Go.Proofs.YtmgkejgmkfeccaaDoor
open Go.RowKit Go.Shelf
set_option linter.unusedVariables false
set_option linter.unusedSimpArgs false
set_option maxRecDepth 100000

theorem mark_is : ∀ n : Fin 256, mark6 n.val = if sign1 n.val then 7 else if n.val = 35 then 1 else if n.val = 32 then 5 else 0 := by decide +kernel
theorem ask_ref (c : UInt8) (k N : Nat) (hk : k < N) : ask6 (mark6 c.toNat) (plc6 k N) = (sign1 c.toNat || (decide (k = 0) && (decide (c = 32) || decide (c = 35))) || (decide (k + 1 = N) && decide (c = 32))) := by
  have hm := mark_is ⟨c.toNat, c.toNat_lt⟩
  simp only at hm
  have e32 : (c = 32) ↔ c.toNat = 32 := ⟨fun h => by rw [h]; rfl, fun h => UInt8.toNat_inj.1 h⟩
  have e35 : (c = 35) ↔ c.toNat = 35 := ⟨fun h => by rw [h]; rfl, fun h => UInt8.toNat_inj.1 h⟩
  simp only [e32, e35]
  rw [hm]
  cases hs : sign1 c.toNat with
  | true => simp only [if_true]; rw [ask_seven]; rfl
  | false =>
    simp only [Bool.false_eq_true, if_false, Bool.false_or]
    unfold plc6
    by_cases h35 : c.toNat = 35
    · rw [if_pos h35, h35]
      by_cases h0 : k = 0
      · rw [if_pos h0]
        by_cases h1 : N = 1 <;> simp [h0, h1, ask6]
      · rw [if_neg h0]
        by_cases h1 : k + 1 = N <;> simp [h0, h1, ask6]
    · rw [if_neg h35]
      by_cases h32 : c.toNat = 32
      · rw [if_pos h32, h32]
        by_cases h0 : k = 0
        · rw [if_pos h0]
          by_cases h1 : N = 1 <;> simp [h0, h1, ask6]
        · rw [if_neg h0]
          by_cases h1 : k + 1 = N <;> simp [h0, h1, ask6]
      · rw [if_neg h32, ask_zero]
        simp [h35, h32]

/-- The text of the first parts. -/
def preT (d : List Part6) (j : Nat) : List UInt8 := Lib.join ((d.take j).map partT) [44]
theorem preT_zero (d : List Part6) : preT d 0 = [] := by simp [preT, Lib.join_nil]
theorem preT_next {d : List Part6} {j : Nat} {p : Part6} (h : d[j]? = some p) : preT d (j + 1) = (if j = 0 then preT d j else preT d j ++ [44]) ++ partT p := by
  cases d with
  | nil => simp at h
  | cons q r =>
    cases j with
    | zero =>
      simp at h
      subst h
      simp [preT, Lib.join_nil, Lib.join_one]
    | succ j =>
      have h2 : r[j]? = some p := by simpa using h
      rw [if_neg (by omega)]
      have e : ∀ k, preT (q :: r) (k + 1) = partT q ++ Lib.joinTail [44] ((r.map partT).take k) := fun k => by
        unfold preT
        rw [List.take_succ_cons, List.map_cons, Lib.join_cons, List.map_take]
      rw [e, e, Lib.joinTail_take_succ [44] (r.map partT) j (partT p) (by rw [List.getElem?_map, h2]; rfl)]
      simp
theorem preT_len {d : List Part6} (h : nameOk d = true) (j : Nat) : (preT d j).length ≤ 16000 := by
  have h1 : nameOk (d.take j) = true := by
    have h9 := List.take_append_drop j d
    rw [← h9] at h
    exact nameOk_take h
  exact dnT_len h1

end Go.Proofs.YtmgkejgmkfeccaaDoor
