
/- dn: small letters, what may be: as words. -/
import Derived.Test.YtbfebljahjmjfaaGreatDoorE4
namespace Go.Proofs.YtbfebljahjmjfaaGreatDoor
open Go.RowKit Go.Shelf
set_option linter.unusedVariables false
set_option linter.unusedSimpArgs false

/-- A byte in small letters. -/
def small1 (c : UInt8) : UInt8 := if 65 ≤ c.toNat ∧ c.toNat ≤ 90 then UInt8.ofNat (c.toNat + 32) else c
def smallL (s : List UInt8) : List UInt8 := s.map small1
theorem small1_nat (c : UInt8) : (small1 c).toNat = if 65 ≤ c.toNat ∧ c.toNat ≤ 90 then c.toNat + 32 else c.toNat := by
  unfold small1
  split
  · rename_i h
    rw [UInt8.toNat_ofNat']
    omega
  · rfl
theorem small1_idem (c : UInt8) : small1 (small1 c) = small1 c := by
  apply UInt8.toNat_inj.1
  rw [small1_nat (small1 c)]
  have h := small1_nat c
  split at h <;> rw [h] <;> split <;> omega
theorem smallL_idem (s : List UInt8) : smallL (smallL s) = smallL s := by
  unfold smallL
  rw [List.map_map]
  apply List.map_congr_left
  intro c _
  exact small1_idem c
theorem smallL_len (s : List UInt8) : (smallL s).length = s.length := by simp [smallL]

/-- A small letter. -/
def let1 (c : UInt8) : Bool := decide (97 ≤ c.toNat) && decide (c.toNat ≤ 122)
/-- What may stand in a Type. -/
def typ1 (c : UInt8) : Bool := let1 c || (decide (48 ≤ c.toNat) && decide (c.toNat ≤ 57)) || decide (c.toNat = 45)
def typeOk (s : List UInt8) : Bool := decide (1 ≤ s.length) && (decide (s.length ≤ 64) && ((s.head?.map let1).getD false && s.all typ1))
/-- A part of a name: its Type, its Value. -/
abbrev Part6 := List UInt8 × List UInt8
def partOk (p : Part6) : Bool := typeOk p.1 && (decide (1 ≤ p.2.length) && decide (p.2.length ≤ 200))
def nameOk (d : List Part6) : Bool := decide (d.length ≤ 16) && d.all partOk

end Go.Proofs.YtbfebljahjmjfaaGreatDoor
