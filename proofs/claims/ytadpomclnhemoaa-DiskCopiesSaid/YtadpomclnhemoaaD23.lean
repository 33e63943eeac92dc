/- few under one roof. -/
import Derived.Test.YtadpomclnhemoaaD22
namespace Go.Proofs.Ytadpomclnhemoaa
open Go.RowKit
set_option linter.unusedVariables false

theorem few_is (size : Int) (A : Option Addr) (len c : Nat) (l : List ActD) (w : World) (hl : ActsAt w A len l) (hm : len ≤ 9223372036854775807) :
    Calls Try.prog 9 #[.int .i64 size, .slice A len c] w fun e w' => e = .returned (.bool (fewB size l)) ∧ w = w' := by
  by_cases h : 300 < size ∨ 40 < len
  · have e : fewB size l = false := by
      unfold fewB
      rw [hl.len]
      rcases h with h | h <;> simp [h]
    rw [e]
    exact few_out size A len c w hm h
  · have h1 : ¬ 300 < size := fun hh => h (.inl hh)
    have h2 : ¬ 40 < len := fun hh => h (.inr hh)
    have e : fewB size l = (l.all fun x => decide (x.bs.length ≤ 100)) := by
      unfold fewB
      rw [hl.len]
      simp [h1, h2]
    rw [e]
    exact few_in size A len c l w h1 h2 hl

theorem fewB_true {size : Int} {l : List ActD} (h : fewB size l = true) : size ≤ 300 ∧ l.length ≤ 40 ∧ (l.all fun x => decide (x.bs.length ≤ 100)) = true := by
  unfold fewB at h
  simp only [Bool.and_eq_true, Bool.not_eq_true', Bool.or_eq_false_iff, decide_eq_false_iff_not] at h
  exact ⟨by omega, by omega, h.2⟩

end Go.Proofs.Ytadpomclnhemoaa
