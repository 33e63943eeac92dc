
/- dn: the document's letter; walked (where there is no more of dn's reference). -/
import Derived.Test.YtbfebljahjmjfaaGreatDoorN3
namespace Go.Proofs.YtbfebljahjmjfaaGreatDoor
open Go.RowKit Go.Shelf
set_option linter.unusedVariables false
set_option linter.unusedSimpArgs false
set_option maxRecDepth 100000

/-- A plain letter, small or great. -/
def letr1 (c : UInt8) : Bool := (decide (65 ≤ c.toNat) && decide (c.toNat ≤ 90)) || (decide (97 ≤ c.toNat) && decide (c.toNat ≤ 122))
theorem rletter_is (c : UInt8) (w : World) : Calls Tryz.prog 208 #[.int .u8 (c.toNat : Int)] w fun e w' => e = .returned (.bool (letr1 c)) ∧ w = w' := by
  have hc : c.toNat < 256 := c.toNat_lt
  obtain ⟨r, hr⟩ : ∃ r, letr1 c = r := ⟨_, rfl⟩
  rw [hr]
  unfold letr1 at hr
  go_enter Tryz.func208, Tryz.ntmps208
  rcases Nat.lt_or_ge c.toNat 65 with h1 | h1
  · obtain rfl : r = false := by rw [← hr]; simp; omega
    have h3 : ¬ 97 ≤ c.toNat := by omega
    clear hr
    go_wp2_with fail
    go_ret
    exact ⟨rfl, rfl⟩
  · rcases Nat.lt_or_ge 90 c.toNat with h2 | h2
    · have hb9 : decide ((c.toNat : Int) ≤ 90) = false := by simp; omega
      rcases Nat.lt_or_ge c.toNat 97 with h3 | h3
      · obtain rfl : r = false := by rw [← hr]; simp; omega
        clear hr
        go_wp2_with fail
        go_ret
        exact ⟨rfl, rfl⟩
      · rcases Nat.lt_or_ge 122 c.toNat with h4 | h4
        · obtain rfl : r = false := by rw [← hr]; simp; omega
          have hb : decide ((c.toNat : Int) ≤ 122) = false := by simp; omega
          clear hr
          go_wp2_with fail
          go_ret
          exact ⟨by rw [← hb]; rfl, rfl⟩
        · obtain rfl : r = true := by rw [← hr]; simp; omega
          have hb : decide ((c.toNat : Int) ≤ 122) = true := by simp; omega
          clear hr
          go_wp2_with fail
          go_ret
          exact ⟨by rw [← hb]; rfl, rfl⟩
    · obtain rfl : r = true := by rw [← hr]; simp; omega
      clear hr
      go_wp2_with fail
      go_ret
      exact ⟨rfl, rfl⟩


end Go.Proofs.YtbfebljahjmjfaaGreatDoor
