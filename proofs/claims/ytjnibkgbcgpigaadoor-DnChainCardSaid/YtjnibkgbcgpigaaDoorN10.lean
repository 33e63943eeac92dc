
/- dn: must a byte have a backslash ahead? Walked; a Value's text as words. -/
import Derived.Test.YtjnibkgbcgpigaaDoorN9
namespace Go.Proofs.YtjnibkgbcgpigaaDoor
open Go.RowKit Go.Shelf
set_option linter.unusedVariables false
set_option linter.unusedSimpArgs false
set_option maxRecDepth 100000

/-- Must a byte with these places have one, there? -/
def ask6 (mk at_ : Nat) : Bool := (mk &&& at_) != 0
theorem mark_in (c : Nat) : mark6 c = 0 ∨ mark6 c = 1 ∨ mark6 c = 5 ∨ mark6 c = 7 := by
  unfold mark6
  split
  · simp
  · split
    · simp
    · split <;> simp
theorem plc_in (i n : Nat) : plc6 i n = 1 ∨ plc6 i n = 2 ∨ plc6 i n = 4 ∨ plc6 i n = 5 := by
  unfold plc6
  split
  · split <;> simp
  · split <;> simp

theorem ask_is (b : Nat) (c : UInt8) (at_ : Nat) (w : World) (h : MarksAt w b) (hat : at_ = 1 ∨ at_ = 2 ∨ at_ = 4 ∨ at_ = 5) :
    Calls Tryd.prog 49 #[.map (some b), .int .u8 (c.toNat : Int), .int .u8 (at_ : Int)] w fun e w' => e = .returned (.bool (ask6 (mark6 c.toNat) at_)) ∧ w = w' := by
  have hl := marks_look h c
  have hm := mark_in c.toNat
  obtain ⟨mk, hmk⟩ : ∃ mk, mark6 c.toNat = mk := ⟨_, rfl⟩
  rw [hmk] at hl hm ⊢
  clear h hmk
  go_enter Tryd.func49, Tryd.ntmps49
  rcases hm with rfl | rfl | rfl | rfl <;> rcases hat with rfl | rfl | rfl | rfl
  all_goals
    go_wp2_with fail
    go_ret
    exact ⟨rfl, rfl⟩

/-- A digit to the base 16, in a text. -/
def hexd (n : Nat) : UInt8 := if n < 10 then UInt8.ofNat (48 + n) else UInt8.ofNat (87 + n)
/-- How a byte of a Value stands in a text. -/
def esc6 (i n : Nat) (c : UInt8) : List UInt8 :=
  if plain1 c = false then [92, hexd (c.toNat / 16), hexd (c.toNat % 16)]
  else if ask6 (mark6 c.toNat) (plc6 i n) then [92, c] else [c]
/-- A Value's text, from the byte of some number on. -/
def text6 (n : Nat) : Nat → List UInt8 → List UInt8
  | _, [] => []
  | i, c :: r => esc6 i n c ++ text6 n (i + 1) r
theorem esc_len (i n : Nat) (c : UInt8) : 1 ≤ (esc6 i n c).length ∧ (esc6 i n c).length ≤ 3 := by
  unfold esc6
  split
  · simp
  · split <;> simp
theorem text_len6 (n : Nat) : ∀ (r : List UInt8) (i : Nat), (text6 n i r).length ≤ 3 * r.length
  | [], _ => by simp [text6]
  | c :: r, i => by
    have h1 := (esc_len i n c).2
    have h2 := text_len6 n r (i + 1)
    simp only [text6, List.length_append, List.length_cons]
    omega

end Go.Proofs.YtjnibkgbcgpigaaDoor
