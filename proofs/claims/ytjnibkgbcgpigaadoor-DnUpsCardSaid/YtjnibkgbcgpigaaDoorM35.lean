/- Texts of one proof, laid together: N54. -/
import Derived.Test.YtjnibkgbcgpigaaDoorM34
/- dn: Under; walked. -/
namespace Go.Proofs.YtjnibkgbcgpigaaDoor
open Go.RowKit Go.Shelf
set_option linter.unusedVariables false
set_option linter.unusedSimpArgs false
set_option maxRecDepth 100000

theorem size_alloc6 (w : World) (o : Obj) : (w.alloc o).heap.size = w.heap.size + 1 := by simp only [World.alloc, Array.size_push]
/-- A part, laid in a row of its own. -/
theorem one_rdn (w : World) (r : Part6) (t : TypeId) (h1 : r.1.length ≤ 9223372036854775807) (h2 : r.2.length ≤ 9223372036854775807) : DnIn (w.alloc (.cells #[tv r.1, tv r.2] t)) (some ⟨w.heap.size, 0, none⟩) 1 [r] := by
  refine ⟨rfl, fun p hp => ?_, fun _ => ⟨w.heap.size, 0, rfl, fun i p hi => ?_⟩⟩
  · simp at hp
    subst hp
    exact ⟨h1, h2⟩
  · cases i with
    | zero =>
      simp at hi
      subst hi
      exact two_facts6 (heap_new8 w _)
    | succ i => simp at hi

/-- What Under answers. -/
def UndQ (r : Part6) (n : Nat) (d : List Part6) (w : World) (e : Ending) (w' : World) : Prop :=
  (nameOk (r :: d) = false → e = .returned (.tuple #[.slice none 0 0, .int .i64 2])) ∧ (nameOk (r :: d) = true → ∃ C e', e = .returned (.tuple #[.slice C (n + 1) e', .int .i64 0]) ∧ DnV w' C (n + 1) e' (r :: d)) ∧ Keeps [] w w'

set_option maxHeartbeats 8000000 in
theorem under_is (r : Part6) (A : Option Addr) (n c : Nat) (d : List Part6) (w : World) (h1 : r.1.length ≤ 9223372036854775807) (h2 : r.2.length ≤ 9223372036854775807) (h : DnV w A n c d) (hn : n ≤ 20) :
    Calls Tryd.prog 25 #[.agg #[tv r.1, tv r.2], .slice A n c] w (UndQ r n d w) := by
  obtain ⟨W1, hW1⟩ : ∃ W1, w.alloc (.cells #[tv r.1, tv r.2] 38) = W1 := ⟨_, rfl⟩
  have hk1 : Keeps [] w W1 := by rw [← hW1]; exact (Keeps.refl [] w).alloc _
  have hz1 : W1.heap.size = w.heap.size + 1 := by rw [← hW1]; exact size_alloc6 _ _
  have hf := two_facts6 (heap_new8 w (.cells #[tv r.1, tv r.2] 38))
  rw [hW1] at hf
  obtain ⟨f0, f1⟩ := hf
  obtain ⟨W2, hW2⟩ : ∃ W2, W1.alloc (.cells #[tv r.1, tv r.2] 38) = W2 := ⟨_, rfl⟩
  have hk2 : Keeps [] w W2 := by rw [← hW2]; exact hk1.alloc _
  have hz2 : W2.heap.size = w.heap.size + 2 := by rw [← hW2, size_alloc6, hz1]
  have hr1 := one_rdn W1 r 38 h1 h2
  rw [hW2, hz1] at hr1
  have hnm := two_names W2 (some ⟨w.heap.size + 1, 0, none⟩) A 1 1 n c [r] d 23 (by omega) h.2.2.2 hr1 (h.1.grow hk2)
  rw [hz2] at hnm
  have hlen : d.length = n := h.1.1
  have hpp : ∀ p ∈ r :: d, p.1.length ≤ 9223372036854775807 ∧ p.2.length ≤ 9223372036854775807 := fun p hp => by
    rcases List.mem_cons.1 hp with rfl | hp
    · exact ⟨h1, h2⟩
    · exact h.1.2.1 p hp
  have hco := concat6_is (w.heap.size + 2) 2 [⟨some ⟨w.heap.size + 1, 0, none⟩, 1, 1, [r]⟩, ⟨A, n, c, d⟩] _ rfl (by omega) hnm (by simp [totN]; omega)
  rw [show totN [⟨some ⟨w.heap.size + 1, 0, none⟩, 1, 1, [r]⟩, ⟨A, n, c, d⟩] = n + 1 by simp [totN]; omega, show flatN [⟨some ⟨w.heap.size + 1, 0, none⟩, 1, 1, [r]⟩, ⟨A, n, c, d⟩] = r :: d by simp [flatN]] at hco
  have HCO := Lib.hid hco
  have HK3 : Hid (Keeps [] w (W2.alloc (.cells #[.slice (some ⟨w.heap.size + 1, 0, none⟩) 1 1, .slice A n c] 23))) := hk2.alloc _
  have HLN := Lib.hid hlen
  have HPP := Lib.hid hpp
  have HW1 := Lib.hid hW1
  have HW2 := Lib.hid hW2
  have HZ1 := Lib.hid hz1
  obtain ⟨s, v⟩ := r
  dsimp only at *
  unfold tv at f0 f1 HW1 HW2 ⊢
  clear hW1 hW2 hk1 hk2 hz1 hz2 hr1 hnm hlen hpp hco h h1 h2
  go_enter Tryd.func25, Tryd.ntmps25
  go_wp2_with fail
  rw [HW1.out, HW2.out, show w.heap.size + 1 + 1 = w.heap.size + 2 from rfl]
  refine HCO.out.mono ?_
  rintro e w4 ⟨B, e1, rfl, ho, hk4⟩
  have HO := Lib.hid ho
  have HK4 := Lib.hid (HK3.out.trans' hk4)
  have hdn : DnIn w4 B (n + 1) ((s, v) :: d) := DnIn.of_own ho (by rw [List.length_cons, HLN.out]) HPP.out
  have HMB := Lib.hid (maybe6_is w4.heap.size 1 [⟨B, n + 1, e1, (s, v) :: d⟩] _ rfl (by decide) (one_name w4 B (n + 1) e1 ((s, v) :: d) 23 (by omega) hdn))
  simp only [List.all_cons, List.all_nil, Bool.and_true] at HMB
  have HDV : Hid (DnV w4 B (n + 1) e1 ((s, v) :: d)) := DnV.of_own HO.out (by rw [List.length_cons, HLN.out]) HPP.out (by omega)
  have HK5 : Hid (Keeps [] w4 (w4.alloc (.cells #[.slice B (n + 1) e1] 23))) := (Keeps.refl [] _).alloc _
  clear ho hk4 hdn
  cases hok : nameOk ((s, v) :: d) with
  | false =>
    rw [hok] at HMB
    have HOK := Lib.hid hok
    clear hok
    go_wp2_with fail
    refine HMB.out.mono ?_
    rintro e w5 ⟨rfl, hk5⟩
    have HK6 := Lib.hid (HK4.out.trans' (HK5.out.trans' hk5))
    clear hk5
    go_wp2_with fail
    go_ret2
    exact ⟨fun _ => rfl, fun h => (by rw [HOK.out] at h; cases h), HK6.out⟩
  | true =>
    rw [hok] at HMB
    have HOK := Lib.hid hok
    clear hok
    go_wp2_with fail
    refine HMB.out.mono ?_
    rintro e w5 ⟨rfl, hk5⟩
    have HDV5 := Lib.hid (HDV.out.grow (HK5.out.trans' hk5))
    have HK6 := Lib.hid (HK4.out.trans' (HK5.out.trans' hk5))
    clear hk5
    go_wp2_with fail
    go_ret2
    exact ⟨fun h => (by rw [HOK.out] at h; cases h), fun _ => ⟨B, e1, rfl, HDV5.out⟩, HK6.out⟩

end Go.Proofs.YtjnibkgbcgpigaaDoor
