
/- dn: the document's letter, sign, digit; walked. -/
import Derived.Test.YtjnibkgbcgpigaaDoorN10
namespace Go.Proofs.YtjnibkgbcgpigaaDoor
open Go.RowKit Go.Shelf
set_option linter.unusedVariables false
set_option linter.unusedSimpArgs false
set_option maxRecDepth 100000

/-- A plain letter, small or great. -/
def letr1 (c : UInt8) : Bool := (decide (65 ≤ c.toNat) && decide (c.toNat ≤ 90)) || (decide (97 ≤ c.toNat) && decide (c.toNat ≤ 122))
theorem rletter_is (c : UInt8) (w : World) : Calls Tryd.prog 54 #[.int .u8 (c.toNat : Int)] w fun e w' => e = .returned (.bool (letr1 c)) ∧ w = w' := by
  have hc : c.toNat < 256 := c.toNat_lt
  obtain ⟨r, hr⟩ : ∃ r, letr1 c = r := ⟨_, rfl⟩
  rw [hr]
  unfold letr1 at hr
  go_enter Tryd.func54, Tryd.ntmps54
  rcases Nat.lt_or_ge c.toNat 65 with h1 | h1
  · obtain rfl : r = false := by rw [← hr]; simp; omega
    have h3 : ¬ 97 ≤ c.toNat := by omega
    clear hr
    go_wp2_with fail
    go_ret
    exact ⟨rfl, rfl⟩
  · rcases Nat.lt_or_ge 90 c.toNat with h2 | h2
    · have hb9 : decide ((c.toNat : Int) ≤ 90) = false := by simp; omega
      rcases Nat.lt_or_ge c.toNat 97 with h3 | h3
      · obtain rfl : r = false := by rw [← hr]; simp; omega
        clear hr
        go_wp2_with fail
        go_ret
        exact ⟨rfl, rfl⟩
      · rcases Nat.lt_or_ge 122 c.toNat with h4 | h4
        · obtain rfl : r = false := by rw [← hr]; simp; omega
          have hb : decide ((c.toNat : Int) ≤ 122) = false := by simp; omega
          clear hr
          go_wp2_with fail
          go_ret
          exact ⟨by rw [← hb]; rfl, rfl⟩
        · obtain rfl : r = true := by rw [← hr]; simp; omega
          have hb : decide ((c.toNat : Int) ≤ 122) = true := by simp; omega
          clear hr
          go_wp2_with fail
          go_ret
          exact ⟨by rw [← hb]; rfl, rfl⟩
    · obtain rfl : r = true := by rw [← hr]; simp; omega
      clear hr
      go_wp2_with fail
      go_ret
      exact ⟨rfl, rfl⟩

/-- The bytes that have a backslash ahead anywhere. -/
def sign1 (c : Nat) : Bool := decide (mark6 c = 7)
theorem rsign_is (c : UInt8) (w : World) : Calls Tryd.prog 37 #[.int .u8 (c.toNat : Int)] w fun e w' => e = .returned (.bool (sign1 c.toNat)) ∧ w = w' := by
  have hc : c.toNat < 256 := c.toNat_lt
  obtain ⟨n, hn⟩ : ∃ n, c.toNat = n := ⟨_, rfl⟩
  rw [hn] at hc ⊢
  clear hn
  by_cases hs : n = 44 ∨ n = 43 ∨ n = 34 ∨ n = 92 ∨ n = 60 ∨ n = 62 ∨ n = 59 ∨ n = 61
  · rcases hs with rfl | rfl | rfl | rfl | rfl | rfl | rfl | rfl
    all_goals
      go_enter Tryd.func37, Tryd.ntmps37
      go_wp2_with fail
      go_ret
      exact ⟨rfl, rfl⟩
  · have hf : sign1 n = false := by
      unfold sign1 mark6
      rw [if_neg hs]
      split
      · rfl
      · split <;> rfl
    rw [hf]
    simp only [not_or] at hs
    obtain ⟨s1, s2, s3, s4, s5, s6, s7, s8⟩ := hs
    have i1 : ¬ (n : Int) = 44 := by omega
    have b1 : ((n : Int) == 44) = false := by simpa using i1
    have i2 : ¬ (n : Int) = 43 := by omega
    have b2 : ((n : Int) == 43) = false := by simpa using i2
    have i3 : ¬ (n : Int) = 34 := by omega
    have b3 : ((n : Int) == 34) = false := by simpa using i3
    have i4 : ¬ (n : Int) = 92 := by omega
    have b4 : ((n : Int) == 92) = false := by simpa using i4
    have i5 : ¬ (n : Int) = 60 := by omega
    have b5 : ((n : Int) == 60) = false := by simpa using i5
    have i6 : ¬ (n : Int) = 62 := by omega
    have b6 : ((n : Int) == 62) = false := by simpa using i6
    have i7 : ¬ (n : Int) = 59 := by omega
    have b7 : ((n : Int) == 59) = false := by simpa using i7
    have i8 : ¬ (n : Int) = 61 := by omega
    have b8 : ((n : Int) == 61) = false := by simpa using i8
    clear hf s1 s2 s3 s4 s5 s6 s7 s8
    go_enter Tryd.func37, Tryd.ntmps37
    go_wp2_with fail
    go_ret
    exact ⟨rfl, rfl⟩

/-- A digit's number to the base 16, or none. -/
def dig1 (n : Nat) : Option Nat := if 48 ≤ n ∧ n ≤ 57 then some (n - 48) else if 97 ≤ n ∧ n ≤ 102 then some (n - 87) else if 65 ≤ n ∧ n ≤ 70 then some (n - 55) else none
def digZ (n : Nat) : Int := match dig1 n with | some k => (k : Int) | none => -1
theorem rdigit_is (c : UInt8) (w : World) : Calls Tryd.prog 66 #[.int .u8 (c.toNat : Int)] w fun e w' => e = .returned (.int .i64 (digZ c.toNat)) ∧ w = w' := by
  have hc : c.toNat < 256 := c.toNat_lt
  obtain ⟨n, hn⟩ : ∃ n, c.toNat = n := ⟨_, rfl⟩
  rw [hn] at hc ⊢
  clear hn
  have hw : wrap64 (n : Int) = (n : Int) := by unfold wrap64; omega
  obtain ⟨z, hz⟩ : ∃ z, digZ n = z := ⟨_, rfl⟩
  rw [hz]
  unfold digZ dig1 at hz
  by_cases h1 : 48 ≤ n ∧ n ≤ 57
  · rw [if_pos h1] at hz
    obtain ⟨a1, a2⟩ := h1
    have hz' : z = (n : Int) - 48 := by rw [← hz]; show ((n - 48 : Nat) : Int) = _; omega
    subst hz'
    clear hz
    go_enter Tryd.func66, Tryd.ntmps66
    go_wp2_with fail
    go_ret
    exact ⟨rfl, rfl⟩
  · rw [if_neg h1] at hz
    by_cases h2 : 97 ≤ n ∧ n ≤ 102
    · rw [if_pos h2] at hz
      obtain ⟨a1, a2⟩ := h2
      have hz' : z = (n : Int) - 87 := by rw [← hz]; show ((n - 87 : Nat) : Int) = _; omega
      subst hz'
      have g1 : ¬ n ≤ 57 := by omega
      have g2 : 48 ≤ n := by omega
      clear hz h1
      go_enter Tryd.func66, Tryd.ntmps66
      go_wp2_with fail
      go_ret
      exact ⟨rfl, rfl⟩
    · rw [if_neg h2] at hz
      by_cases h3 : 65 ≤ n ∧ n ≤ 70
      · rw [if_pos h3] at hz
        obtain ⟨a1, a2⟩ := h3
        have hz' : z = (n : Int) - 55 := by rw [← hz]; show ((n - 55 : Nat) : Int) = _; omega
        subst hz'
        have g1 : ¬ n ≤ 57 := by omega
        have g2 : 48 ≤ n := by omega
        have g3 : ¬ 97 ≤ n := by omega
        clear hz h1 h2
        go_enter Tryd.func66, Tryd.ntmps66
        go_wp2_with fail
        go_ret
        exact ⟨rfl, rfl⟩
      · rw [if_neg h3] at hz
        subst hz
        have hq : (n < 48) ∨ (57 < n ∧ n < 65) ∨ (70 < n ∧ n < 97) ∨ 102 < n := by omega
        clear h1 h2 h3
        rcases hq with h | ⟨h, h'⟩ | ⟨h, h'⟩ | h
        · have g1 : ¬ 48 ≤ n := by omega
          have g2 : ¬ 97 ≤ n := by omega
          have g3 : ¬ 65 ≤ n := by omega
          clear h
          go_enter Tryd.func66, Tryd.ntmps66
          go_wp2_with fail
          go_ret
          exact ⟨rfl, rfl⟩
        · have g1 : 48 ≤ n := by omega
          have g4 : ¬ n ≤ 57 := by omega
          have g2 : ¬ 97 ≤ n := by omega
          have g3 : ¬ 65 ≤ n := by omega
          clear h h'
          go_enter Tryd.func66, Tryd.ntmps66
          go_wp2_with fail
          go_ret
          exact ⟨rfl, rfl⟩
        · have g1 : 48 ≤ n := by omega
          have g4 : ¬ n ≤ 57 := by omega
          have g2 : ¬ 97 ≤ n := by omega
          have g3 : 65 ≤ n := by omega
          have g5 : ¬ n ≤ 70 := by omega
          clear h h'
          go_enter Tryd.func66, Tryd.ntmps66
          go_wp2_with fail
          go_ret
          exact ⟨rfl, rfl⟩
        · have g1 : 48 ≤ n := by omega
          have g4 : ¬ n ≤ 57 := by omega
          have g2 : 97 ≤ n := by omega
          have g6 : ¬ n ≤ 102 := by omega
          have g3 : 65 ≤ n := by omega
          have g5 : ¬ n ≤ 70 := by omega
          clear h
          go_enter Tryd.func66, Tryd.ntmps66
          go_wp2_with fail
          go_ret
          exact ⟨rfl, rfl⟩

end Go.Proofs.YtjnibkgbcgpigaaDoor
