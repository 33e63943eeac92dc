
/- Arguments opened: bytes, as the walks take them. -/
import Derived.Test.YtbfebljahjmjfaaGreatDoorProg
import Derived.Test.YtbfebljahjmjfaaGreatDoorG1
import Derived.ProofKit
import Derived.Deep.Grids
import Derived.Deep.Slices
import Derived.Lib.SmallJoins
namespace Go.Proofs.YtbfebljahjmjfaaGreatDoor
open Go.RowKit Go.ChangeShapes Go.WideShapes Go.Deep
set_option linter.unusedVariables false

theorem spot_of_cell {w : World} {a : Addr} {v : Value} (h : w.cell? a = some v) : a.spot = none := by
  unfold World.cell? at h
  split at h
  · split at h
    · cases h
    · rename_i h'; simpa using h'
  · cases h

theorem addr_of_cell {w : World} {a : Addr} {v : Value} (h : w.cell? (a.add 0) = some v) : a = ⟨a.block, a.off, none⟩ := by
  have h0 : a.add 0 = a := by unfold Addr.add; simp
  rw [h0] at h
  have := spot_of_cell h
  cases a
  simp at this
  simp [this]

theorem bv_ofInt {z : Int} (h : (Lit.int .u8 z).wf = true) : bv (UInt8.ofNat z.toNat) = .int .u8 z := by
  have hx : 0 ≤ z ∧ z ≤ 255 := by simpa [Lit.wf, IntKind.min, IntKind.max, IntKind.signed, IntKind.bits] using h
  unfold bv
  have : ((UInt8.ofNat z.toNat).toNat : Int) = z := by
    rw [UInt8.toNat_ofNat']
    omega
  rw [this]

section
variable {H : Type} {enc : TypeId × Value → H} {W : World} {base : Nat} {sp : Nat → Bool} {hd : Bool}

/-- Bytes that came in. -/
theorem bytes_of_trod {fuel : Nat} {v : Value} {y : DataW H × List MemPlace} (h : DataW.trod enc Tryz.prog W base sp hd fuel 37 [v] = some y) :
    ∃ (A : Option Addr) (len cap : Nat) (bs : List UInt8), v = .slice A len cap ∧ bs.length = len ∧ BytesAt W (.slice A len cap) bs ∧ len ≤ 9223372036854775807 := by
  rcases open_ints Tryz.underlying37 Tryz.underlying5 (by kernel_rfl) h with ⟨hcs, _⟩ | ⟨a, len, cap, zs, hcs, _, hl, hm, hz, _, hcell, hwz⟩
  · injection hcs with hcs _
    exact ⟨none, 0, 0, [], hcs, rfl, ⟨none, 0, rfl, Nat.le_refl _, Nat.zero_le _, fun h => absurd h (by simp)⟩, by omega⟩
  · injection hcs with hcs _
    have hzl : len ≤ zs.length := by rw [hz]; split <;> omega
    have hbl : ((zs.take len).map fun z => UInt8.ofNat z.toNat).length = len := by simp; omega
    refine ⟨some a, len, cap, (zs.take len).map fun z => UInt8.ofNat z.toNat, hcs, hbl, ⟨some a, cap, by rw [hbl], by omega, hm, fun hp => ?_⟩, by unfold maxLen at hm; omega⟩
    rw [hbl] at hp
    have ha := addr_of_cell (hcell 0 (by omega))
    refine ⟨a.block, a.off, by rw [← ha], fun i u hu => ?_⟩
    rw [List.getElem?_map, Option.map_eq_some_iff] at hu
    obtain ⟨z, hz1, rfl⟩ := hu
    rw [List.getElem?_take] at hz1
    split at hz1
    · have hi : i < zs.length := (List.getElem?_eq_some_iff.1 hz1).1
      have hc := hcell i hi
      rw [ha, add_at] at hc
      have hzi : zs.getD i 0 = z := by simp [List.getD, hz1]
      rw [hc, hzi, bv_ofInt (hwz z (List.mem_of_getElem? hz1))]
    · cases hz1
end

end Go.Proofs.YtbfebljahjmjfaaGreatDoor
