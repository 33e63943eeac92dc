
/- dn: names in memory; what may be a part, a name; walked. -/
import Derived.Test.YtbfebljahjmjfaaGreatDoorN4
namespace Go.Proofs.YtbfebljahjmjfaaGreatDoor
open Go.RowKit Go.Shelf
set_option linter.unusedVariables false
set_option linter.unusedSimpArgs false
set_option maxRecDepth 100000

/-- A text as a value. -/
def tv (s : List UInt8) : Value := .string ⟨s.toArray⟩
/-- A name in memory: its parts, one behind the other. -/
def DnIn (w : World) (A : Option Addr) (n : Nat) (d : List Part6) : Prop :=
  d.length = n ∧ (∀ p ∈ d, p.1.length ≤ 9223372036854775807 ∧ p.2.length ≤ 9223372036854775807) ∧ (0 < n → ∃ b o, A = some ⟨b, o, none⟩ ∧ ∀ (i : Nat) (p : Part6), d[i]? = some p → w.cell? ⟨b, o + i * 2, none⟩ = some (tv p.1) ∧ w.cell? ⟨b, o + i * 2 + 1, none⟩ = some (tv p.2))
theorem DnIn.grow {w w' : World} {A : Option Addr} {n : Nat} {d : List Part6} (hk : Keeps [] w w') (h : DnIn w A n d) : DnIn w' A n d := by
  obtain ⟨h1, h2, h3⟩ := h
  refine ⟨h1, h2, fun hp => ?_⟩
  obtain ⟨b, o, e, hc⟩ := h3 hp
  refine ⟨b, o, e, fun i p hi => ?_⟩
  obtain ⟨c1, c2⟩ := hc i p hi
  exact ⟨(hk.cell (lt_of_cell c1) (by simp)).trans c1, (hk.cell (lt_of_cell c2) (by simp)).trans c2⟩

theorem two_facts6 {w : World} {g : Nat} {a b : Value} {t : TypeId} (h : w.heap[g]? = some (.cells #[a, b] t (0, 0))) : w.cell? ⟨g, 0, none⟩ = some a ∧ w.cell? ⟨g, 1, none⟩ = some b := ⟨by rw [cell_of_blk h]; rfl, by rw [cell_of_blk h]; rfl⟩

theorem maypart_is (p : Part6) (w : World) (h1 : p.1.length ≤ 9223372036854775807) (h2 : p.2.length ≤ 9223372036854775807) : Calls Tryz.prog 271 #[.agg #[tv p.1, tv p.2]] w fun e w' => e = .returned (.bool (partOk p)) ∧ Keeps [] w w' := by
  obtain ⟨s, v⟩ := p
  have hk0 : Keeps [] w (w.alloc (.cells #[tv s, tv v] 63)) := (Keeps.refl [] w).alloc _
  have hr0 : (w.alloc (.cells #[tv s, tv v] 63)).heap[w.heap.size]? = some (.cells #[tv s, tv v] 63 (0, 0)) := heap_new8 w _
  obtain ⟨W0, hW0⟩ : ∃ W0, w.alloc (.cells #[tv s, tv v] 63) = W0 := ⟨_, rfl⟩
  rw [hW0] at hk0 hr0
  have HF := Lib.hid (fun X (hk : Keeps [] W0 X) => two_facts6 (blk_keep hr0 hk (by simp)))
  have HK0 := Lib.hid hk0
  have HT := Lib.hid (maytype_is s W0 h1)
  obtain ⟨y0, y1⟩ := HF.out W0 (Keeps.refl _ _)
  obtain ⟨r, hr⟩ : ∃ r, partOk (s, v) = r := ⟨_, rfl⟩
  rw [hr]
  unfold partOk at hr
  dsimp only at hr h1 h2
  obtain ⟨l, hl⟩ : ∃ l, typeOk s = l := ⟨_, rfl⟩
  rw [hl] at HT hr
  clear hk0 hr0 hl h1 h2
  unfold tv at *
  go_enter Tryz.func271, Tryz.ntmps271
  go_wp2_with fail
  refine HT.out.mono ?_
  rintro e w1 ⟨rfl, hk1⟩
  have HK1 := Lib.hid (HK0.out.trans' hk1)
  clear y0 y1
  obtain ⟨y0, y1⟩ := HF.out w1 hk1
  clear hk1
  cases l
  · obtain rfl : r = false := by rw [← hr]; rfl
    clear hr
    go_wp2_with fail
    go_ret
    exact ⟨rfl, HK1.out⟩
  · rcases Nat.eq_zero_or_pos v.length with h0 | h0
    · have hve : v = [] := List.length_eq_zero_iff.1 h0
      subst hve
      obtain rfl : r = false := by rw [← hr]; rfl
      clear hr h0
      go_wp2_with fail
      go_ret
      exact ⟨rfl, HK1.out⟩
    · have hg : (1 : Int) ≤ (v.length : Int) := by omega
      rcases Nat.lt_or_ge 200 v.length with h3 | h3
      · obtain rfl : r = false := by rw [← hr]; simp; omega
        have hg2 : decide ((v.length : Int) ≤ 200) = false := by simp; omega
        clear hr h0 h3
        go_wp2_with fail
        go_ret
        exact ⟨by rw [← hg2]; rfl, HK1.out⟩
      · obtain rfl : r = true := by rw [← hr]; simp; omega
        have hg2 : decide ((v.length : Int) ≤ 200) = true := by simp; omega
        clear hr h0 h3
        go_wp2_with fail
        go_ret
        exact ⟨by rw [← hg2]; rfl, HK1.out⟩

end Go.Proofs.YtbfebljahjmjfaaGreatDoor
