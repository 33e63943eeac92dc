
/- bytes.Clone (the disk's D2, for a seat that has no disk). -/
import Derived.Test.YtbfebljahjmjfaaGreatDoorProg
import Derived.Test.YtbfebljahjmjfaaGreatDoorG1
import Derived.Deep.RegionLaw
import Derived.Lib.SlBytesRow
namespace Go.Proofs.YtbfebljahjmjfaaGreatDoor
open Go.RowKit
set_option linter.unusedVariables false

theorem u8_info : (Tryz.prog.info? 5).map (fun i => (i.zero, i.size, i.bytes)) = some (some (.int .u8 0), 1, 1) := by kernel_rfl

theorem clone_nil (c : Nat) (w : World) : Calls Tryz.prog 181 #[.slice none 0 c] w fun e w' => e = .returned (.slice none 0 0) ∧ w = w' := by
  have hq := fun (W : World) (a : Option Addr) (n c : Nat) => Lib.run_eql_slice_nil (P := Tryz.prog) W 37 5 a n c 0 0 Tryz.underlying37
  go_enter Tryz.func181, Tryz.ntmps181
  go_wp2
  go_ret
  exact ⟨rfl, rfl⟩

theorem clone_some (ad : Addr) (c : Nat) (xs : List UInt8) (w : World) (hl : xs.length ≤ 140737488351232)
    (hc : ∀ j u, (xs.map bv)[j]? = some u → w.cell? (ad.add j) = some u) :
    Calls Tryz.prog 181 #[.slice (some ad) xs.length c] w fun e w' => ∃ v, e = .returned v ∧ w'.ownsRow w.heap.size 5 1 v xs.length (xs.map bv) ∧ Below w.heap.size w w' ∧ ∃ g, v.ownBlock = some g := by
  have hq := fun (W : World) (a : Option Addr) (n c : Nat) => Lib.run_eql_slice_nil (P := Tryz.prog) W 37 5 a n c 0 0 Tryz.underlying37
  obtain ⟨i0, hi, hz0, hz1, hz2⟩ := info_parts u8_info
  have HC := Lib.hid hc
  clear hc
  have HN : Hid ((xs.map bv).length = xs.length * 1) := by show (xs.map bv).length = _; simp
  have HM : xs.length ≤ maxLen := by unfold maxLen; omega
  have HL := Lib.hid hl
  go_enter Tryz.func181, Tryz.ntmps181
  go_wp2_with (at_builtin; refine wpList_append_own _ rfl _ _ _ rfl w.heap.size 5 i0 _ 1 1 Tryz.underlying37 hi hz0 hz1 hz2 rfl (by decide) (.slice (some ⟨w.heap.size, 0, none⟩) 0 0) 0 [] rfl (World.ownsRow_made w #[] 0 (Nat.le_refl _) (by unfold maxLen; omega) rfl) ad xs.length c (xs.map bv) rfl HN.out (cells_alloc HC.out _) bvs_one (by omega) (by omega) (by simp) ?_; intro v' w1 hown hg hnil)
  go_wp2
  go_ret
  refine ⟨v', rfl, by simpa using hown, ?_, ?_⟩
  · exact ((Below.refl _ _).alloc (Nat.le_refl _) _).grown hg (by simp) (by simp [Value.ownBlock])
  · rcases hown.2 with ⟨rfl, _⟩ | ⟨g, cap, cur, rfl, _⟩
    · simp at hnil
    · exact ⟨g, rfl⟩

/-- Clone: nil of nil; else a new row with the same bytes. -/
theorem clone_any (v : Value) (xs : List UInt8) (w : World) (hl : xs.length ≤ 140737488351232) (hv : BytesAt w v xs) :
    Calls Tryz.prog 181 #[v] w fun e w' => ∃ A c, e = .returned (.slice A xs.length c) ∧ w'.ownsRow w.heap.size 5 1 (.slice A xs.length c) xs.length (xs.map bv) ∧ Below w.heap.size w w' := by
  have hv0 := hv
  obtain ⟨A, c, rfl, h1, h2, h3⟩ := hv
  rcases A with _ | ad
  · rcases Nat.eq_zero_or_pos xs.length with h0 | h0
    · have hx : xs = [] := List.eq_nil_of_length_eq_zero h0
      subst hx
      refine (clone_nil c w).mono ?_
      rintro e w' ⟨rfl, rfl⟩
      exact ⟨_, _, rfl, World.ownsRow_nil _ _ _ _, Below.refl _ _⟩
    · obtain ⟨_, _, h, _⟩ := h3 h0
      cases h
  · refine (clone_some ad c xs w hl hv0.cells).mono ?_
    rintro e w' ⟨v', he, ho, hb, _⟩
    obtain ⟨A, c, rfl⟩ := own_slice ho
    exact ⟨A, c, he, ho, hb⟩

end Go.Proofs.YtbfebljahjmjfaaGreatDoor
