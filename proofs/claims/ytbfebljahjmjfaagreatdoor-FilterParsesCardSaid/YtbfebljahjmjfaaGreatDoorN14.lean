
/- dn: what may be a Type is a name in small letters: as words. -/
import Derived.Test.YtbfebljahjmjfaaGreatDoorN13
namespace Go.Proofs.YtbfebljahjmjfaaGreatDoor
open Go.RowKit Go.Shelf
set_option linter.unusedVariables false
set_option linter.unusedSimpArgs false

theorem small1_same (c : UInt8) : (small1 c == c) = !(decide (65 ≤ c.toNat) && decide (c.toNat ≤ 90)) := by
  rw [Bool.eq_iff_iff, beq_iff_eq]
  constructor
  · intro h
    have h1 := small1_nat c
    rw [h] at h1
    split at h1
    · omega
    · rename_i hn
      simp
      omega
  · intro h
    apply UInt8.toNat_inj.1
    rw [small1_nat, if_neg (by simp at h; omega)]
theorem letr_small (c : UInt8) : (letr1 c && (small1 c == c)) = let1 c := by
  rw [small1_same]
  unfold letr1 let1
  rw [Bool.eq_iff_iff]
  simp
  omega
theorem nam_small (c : UInt8) : (nam1 c && (small1 c == c)) = typ1 c := by
  rw [small1_same]
  unfold nam1 typ1 letr1 let1
  rw [Bool.eq_iff_iff]
  simp
  omega
theorem smallL_same : ∀ s : List UInt8, (smallL s == s) = s.all fun c => small1 c == c
  | [] => rfl
  | c :: r => by
    have h := smallL_same r
    have e : (smallL (c :: r) == c :: r) = ((small1 c == c) && (smallL r == r)) := rfl
    rw [e, h]
    rfl
theorem all_both {p q r : UInt8 → Bool} (h : ∀ c, (p c && q c) = r c) : ∀ s : List UInt8, (s.all p && s.all q) = s.all r
  | [] => rfl
  | c :: s => by
    have h1 := all_both h s
    simp only [List.all_cons]
    rw [← h1, ← h c]
    cases p c <;> cases q c <;> cases s.all p <;> cases s.all q <;> rfl
theorem type_name (s : List UInt8) : typeOk s = (nameT s && (smallL s == s)) := by
  unfold typeOk nameT
  rw [smallL_same]
  cases s with
  | nil => rfl
  | cons c r =>
    have h1 := all_both nam_small (c :: r)
    have h2 := letr_small c
    rw [← h1]
    simp only [List.head?_cons, Option.map_some, Option.getD_some]
    rw [← h2]
    simp only [List.all_cons]
    cases decide (1 ≤ (c :: r).length) <;> cases decide ((c :: r).length ≤ 64) <;> cases letr1 c <;> cases (small1 c == c) <;> cases nam1 c <;> cases r.all nam1 <;> cases (r.all fun c => small1 c == c) <;> rfl

end Go.Proofs.YtbfebljahjmjfaaGreatDoor
