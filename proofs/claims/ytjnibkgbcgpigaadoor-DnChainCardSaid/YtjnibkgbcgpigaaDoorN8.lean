
/- dn: which bytes have a backslash ahead, and where; walked. -/
import Derived.Test.YtjnibkgbcgpigaaDoorN3
namespace Go.Proofs.YtjnibkgbcgpigaaDoor
open Go.RowKit Go.Shelf
set_option linter.unusedVariables false
set_option linter.unusedSimpArgs false
set_option maxRecDepth 100000

/-- What a byte may be told by itself. -/
def plain1 (c : UInt8) : Bool := decide (32 ≤ c.toNat) && decide (c.toNat ≤ 126)
theorem isplain_is (c : UInt8) (w : World) : Calls Tryd.prog 48 #[.int .u8 (c.toNat : Int)] w fun e w' => e = .returned (.bool (plain1 c)) ∧ w = w' := by
  have hc : c.toNat < 256 := c.toNat_lt
  obtain ⟨r, hr⟩ : ∃ r, plain1 c = r := ⟨_, rfl⟩
  rw [hr]
  unfold plain1 at hr
  go_enter Tryd.func48, Tryd.ntmps48
  rcases Nat.lt_or_ge c.toNat 32 with h1 | h1
  · obtain rfl : r = false := by rw [← hr]; simp; omega
    clear hr
    go_wp2_with fail
    go_ret
    exact ⟨rfl, rfl⟩
  · rcases Nat.lt_or_ge 126 c.toNat with h2 | h2
    · obtain rfl : r = false := by rw [← hr]; simp; omega
      have h2b : decide ((c.toNat : Int) ≤ 126) = false := by simp; omega
      clear hr
      go_wp2_with fail
      go_ret
      exact ⟨by rw [← h2b]; rfl, rfl⟩
    · obtain rfl : r = true := by rw [← hr]; simp; omega
      have h2b : decide ((c.toNat : Int) ≤ 126) = true := by simp; omega
      clear hr
      go_wp2_with fail
      go_ret
      exact ⟨by rw [← h2b]; rfl, rfl⟩

/-- Where a byte stands: 1 first, 4 last, 2 between. -/
def plc6 (i n : Nat) : Nat := if i = 0 then (if n = 1 then 5 else 1) else if i + 1 = n then 4 else 2
theorem places_is (i n : Nat) (w : World) (hi : i < n) (hn : n ≤ 9223372036854775807) : Calls Tryd.prog 50 #[.int .i64 (i : Int), .int .i64 (n : Int)] w fun e w' => e = .returned (.int .u8 (plc6 i n : Int)) ∧ w = w' := by
  have hw : wrap64 ((n : Int) - 1) = (n : Int) - 1 := by unfold wrap64; omega
  obtain ⟨r, hr⟩ : ∃ r, plc6 i n = r := ⟨_, rfl⟩
  rw [hr]
  unfold plc6 at hr
  have HNB := Lib.hid hn
  clear hn
  go_enter Tryd.func50, Tryd.ntmps50
  by_cases h0 : i = 0
  · subst h0
    by_cases h1 : n = 1
    · subst h1
      obtain rfl : 5 = r := by simpa using hr
      clear hr
      go_wp2_with fail
      go_ret
      exact ⟨rfl, rfl⟩
    · obtain rfl : 1 = r := by simpa [h1] using hr
      have h2 : ¬ (0 : Int) = (n : Int) - 1 := by omega
      have h2b : ((0 : Int) == (n : Int) - 1) = false := by simpa using h2
      clear hr h1
      go_wp2_with fail
      go_ret
      exact ⟨rfl, rfl⟩
  · have h3 : ¬ (i : Int) = 0 := by omega
    have h3b : ((i : Int) == 0) = false := by simpa using h3
    by_cases h1 : i + 1 = n
    · obtain rfl : 4 = r := by simpa [h0, h1] using hr
      have h2 : (i : Int) = (n : Int) - 1 := by omega
      have h2b : ((i : Int) == (n : Int) - 1) = true := by simpa using h2
      clear hr h1 h0 h2
      go_wp2_with fail
      go_ret
      exact ⟨rfl, rfl⟩
    · obtain rfl : 2 = r := by simpa [h0, h1] using hr
      have h2 : ¬ (i : Int) = (n : Int) - 1 := by omega
      have h2b : ((i : Int) == (n : Int) - 1) = false := by simpa using h2
      clear hr h1 h0
      go_wp2_with fail
      go_ret
      exact ⟨rfl, rfl⟩

end Go.Proofs.YtjnibkgbcgpigaaDoor
