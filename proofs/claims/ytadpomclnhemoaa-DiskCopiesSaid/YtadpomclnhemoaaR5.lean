/- The document's own Write and Sync. -/
import Derived.Test.YtadpomclnhemoaaR4
namespace Go.Proofs.Ytadpomclnhemoaa
open Go.RowKit
set_option linter.unusedVariables false

/-- Cells and marks of a block of five. -/
theorem five_facts {w : World} {g : Nat} {a b c d e : Value} {t : TypeId} (h : w.heap[g]? = some (.cells #[a, b, c, d, e] t (0, 0))) :
    (w.cell? ⟨g, 0, none⟩ = some a ∧ w.cell? ⟨g, 1, none⟩ = some b ∧ w.cell? ⟨g, 2, none⟩ = some c ∧ w.cell? ⟨g, 3, none⟩ = some d ∧ w.cell? ⟨g, 4, none⟩ = some e) ∧
    (w.frozen? ⟨g, 0, none⟩ = false ∧ w.frozen? ⟨g, 1, none⟩ = false ∧ w.frozen? ⟨g, 2, none⟩ = false ∧ w.frozen? ⟨g, 3, none⟩ = false ∧ w.frozen? ⟨g, 4, none⟩ = false) :=
  ⟨⟨cell_of_blk h 0, cell_of_blk h 1, cell_of_blk h 2, cell_of_blk h 3, cell_of_blk h 4⟩, ⟨free_of_blk h 0, free_of_blk h 1, free_of_blk h 2, free_of_blk h 3, free_of_blk h 4⟩⟩

/-- The first and the second of two new blocks, behind a call that turned nothing. -/
theorem two_new {w w1 : World} {o1 o2 : Obj} (hb : Below ((w.alloc o1).alloc o2).heap.size ((w.alloc o1).alloc o2) w1) : w1.heap[w.heap.size]? = some o1 ∧ w1.heap[w.heap.size + 1]? = some o2 ∧ Keeps [] w w1 := by
  refine ⟨(hb.block w.heap.size (by simp; omega)).trans ((Below.heap_alloc _ _ _ (by simp)).trans (heap_alloc_new w _)), ?_, (((Keeps.refl [] w).alloc _).alloc _).trans' (Keeps.of_below hb)⟩
  have h1 := hb.block (w.heap.size + 1) (by simp)
  have h2 := heap_alloc_new (w.alloc o1) o2
  rw [World.size_alloc] at h2
  exact h1.trans h2

theorem refwrite_stop (r : Rf) (off : Nat) (B : Option Addr) (n c : Nat) (w : World) (hb : r.L.length ≤ 262144) (hf : off + n ≤ r.L.length) (hl : n = 0 ∨ off + n ≤ r.lim) (hlim : r.lim ≤ 262144) (h0 : r.armed = 0) :
    Calls Try.prog 29 #[r.v, .int .i64 (off : Int), .slice B n c] w fun e w' => e = .returned (.tuple #[r.v, .int .i64 111]) ∧ Below w.heap.size w w' := by
  have ST := fun W => Lib.hid (refstep_no r W h0)
  unfold Rf.v at ST ⊢
  have a1 : ¬ (off : Int) < 0 := by omega
  have a2 : ¬ (r.L.length : Int) < off := by omega
  have a3 : ¬ (r.L.length : Int) - off < n := by omega
  clear h0
  by_cases hn : n = 0
  · have a4 : ¬ (0 : Int) < n := by omega
    clear hn hl
    go_enter Try.func29, Try.ntmps29
    go_wp2_with fail
    refine (ST _).out.mono ?_
    rintro e w1 ⟨rfl, hb1⟩
    obtain ⟨hbx, hby, hk1⟩ := two_new hb1
    obtain ⟨⟨x0, x1, x2, x3, x4⟩, _⟩ := five_facts hbx
    obtain ⟨⟨y0, y1, y2, y3, y4⟩, ⟨f0, f1, f2, f3, f4⟩⟩ := five_facts hby
    have hz0 : w.heap.size < w1.heap.size := lt_of_heap hbx
    have hz1 : w.heap.size + 1 < w1.heap.size := lt_of_heap hby
    have HB := Lib.hid hk1
    clear hb1 hbx hby hk1
    go_wp2_with fail
    exact bodyPost_ret (v := .tuple #[.agg #[.slice r.AL r.L.length r.cL, .slice r.AW r.W.length r.cW, .int .i64 r.armed, .int .i64 (r.lim : Int), .int .i64 (r.done : Int)], .int .i64 111]) (by simp [results, Try.results29, go_sem, y0, y1, y2, y3, y4, hz1]) rfl ⟨rfl, ((HB.out.trans (Keeps.five (w.heap.size + 1) _ _ _ _ _) (by simp)).alloc _).below (Nat.le_refl _) (by simp)⟩
  · have a4 : (0 : Int) < n := by omega
    have a5 : ¬ (r.lim : Int) < (off : Int) + n := by omega
    clear hn hl
    go_enter Try.func29, Try.ntmps29
    go_wp2_with fail
    refine (ST _).out.mono ?_
    rintro e w1 ⟨rfl, hb1⟩
    obtain ⟨hbx, hby, hk1⟩ := two_new hb1
    obtain ⟨⟨x0, x1, x2, x3, x4⟩, _⟩ := five_facts hbx
    obtain ⟨⟨y0, y1, y2, y3, y4⟩, ⟨f0, f1, f2, f3, f4⟩⟩ := five_facts hby
    have hz0 : w.heap.size < w1.heap.size := lt_of_heap hbx
    have hz1 : w.heap.size + 1 < w1.heap.size := lt_of_heap hby
    have HB := Lib.hid hk1
    clear hb1 hbx hby hk1
    go_wp2_with fail
    exact bodyPost_ret (v := .tuple #[.agg #[.slice r.AL r.L.length r.cL, .slice r.AW r.W.length r.cW, .int .i64 r.armed, .int .i64 (r.lim : Int), .int .i64 (r.done : Int)], .int .i64 111]) (by simp [results, Try.results29, go_sem, y0, y1, y2, y3, y4, hz1]) rfl ⟨rfl, ((HB.out.trans (Keeps.five (w.heap.size + 1) _ _ _ _ _) (by simp)).alloc _).below (Nat.le_refl _) (by simp)⟩

end Go.Proofs.Ytadpomclnhemoaa
