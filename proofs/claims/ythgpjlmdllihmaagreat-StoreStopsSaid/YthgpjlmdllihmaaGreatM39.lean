/- Texts of one proof, laid together: U52 U53. -/
import Derived.Test.YthgpjlmdllihmaaGreatM38
import Derived.Deep.RegionHeld3
/- The document's Put. -/
namespace Go.Proofs.YthgpjlmdllihmaaGreat
open Go.RowKit Go.Shelf Go.Maps
set_option linter.unusedVariables false
set_option linter.unusedSimpArgs false
set_option maxRecDepth 100000

/-- The document's store, as a value. -/
def refV (A : Option Addr) (n c : Nat) (size : Nat) (br : Bool) : Value := .agg #[.slice A n c, .int .i64 (size : Int), .bool br]
/-- The table that its Put tells. -/
def refT (T : Tab) (l : List Chg) (br : Bool) (half : Nat) : Tab := if putN T l br half = 0 then behindT T l else T

theorem behind_weight (l : List Chg) : ∀ T : Tab, tweight (behindT T l) ≤ tweight T + (16 * l.length + csize l) := by
  induction l with
  | nil => intro T; simp [behindT, csize]
  | cons x r ih =>
    intro T
    have h1 := ih (chgT T x)
    have h3 : tweight (chgT T x) ≤ tweight T + (16 + (x.k.length + x.v.length)) := tweight_chg T x
    have h4 : csize (x :: r) = x.k.length + x.v.length + csize r := by simp [csize]
    show tweight (behindT (chgT T x) r) ≤ _
    rw [h4, List.length_cons]
    omega
theorem behind_light {T : Tab} {l : List Chg} (hG : Good T) (hok : chgsOk l = true) : tweight (behindT T l) ≤ 1000000000 := by
  have h1 := behind_weight l T
  have h3 := csize_le (l := l) (by unfold chgsOk at hok; simp only [Bool.and_eq_true] at hok; exact hok.2.1)
  have h4 := chgsOk_few hok
  have h5 := tweight_good hG
  have h6 := hG.few
  omega

end Go.Proofs.YthgpjlmdllihmaaGreat
/- The statements' same. -/
namespace Go.Proofs.YthgpjlmdllihmaaGreat
open Go.RowKit Go.Shelf Go.Maps
set_option linter.unusedVariables false
set_option linter.unusedSimpArgs false
set_option maxRecDepth 100000

theorem get_at {T : Tab} (hG : Good T) {j : Nat} (hj : j < T.length) : tval T (T[j]).1 = (T[j]).2 ∧ thas T (T[j]).1 = true := by
  refine ⟨tget_at hG.rise hj, ?_⟩
  unfold thas tget
  rw [Option.isSome_map, List.find?_isSome]
  exact ⟨T[j], List.getElem_mem hj, by simp⟩
theorem get_empty {T : Tab} (hG : Good T) : tval T [] = [] ∧ thas T [] = false := by
  have h : tget T [] = none := by
    unfold tget
    rw [Option.map_eq_none_iff, List.find?_eq_none]
    intro p hp
    have := (hG.key p hp).1
    have hne : p.1 ≠ [] := fun e => by rw [e] at this; simp at this
    simpa using hne
  unfold tval thas
  rw [h]
  exact ⟨rfl, rfl⟩

end Go.Proofs.YthgpjlmdllihmaaGreat
