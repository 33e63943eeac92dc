/- does: Limit done, and Arm. -/
import Derived.Test.YtadpomclnhemoaaS3
namespace Go.Proofs.Ytadpomclnhemoaa
open Go.RowKit
set_option linter.unusedVariables false

theorem Pair.grow {w w' : World} {k : Dk} {r : Rf} (h : Pair w k r) (hk : Keeps [] w w') : Pair w' k r := ⟨h.disk.grow hk, h.ref.grow hk, h.ag, h.apart⟩

/-- Behind a box of the caller's own that is turned, too. -/
theorem Went.box {w w0 w2 w3 : World} {k k' : Dk} {r r' : Rf} {b : Nat} (hP : Pair w k r) (h0 : Keeps [] w w0) (h : Went w0 k r w2 k' r') (hk : Keeps [b] w2 w3) (h1 : w.heap.size ≤ b) (h2 : b < w0.heap.size) : Went w k r w3 k' r' := by
  have hz := h0.size
  have nk : ∀ y ∈ k'.all, y ∉ [b] := by
    intro y hy hm
    rw [List.mem_singleton] at hm
    subst hm
    rcases h.kall y hy with h' | h'
    · have := hP.disk.lt y h'; omega
    · omega
  have nr : ∀ y ∈ r'.all, y ∉ [b] := by
    intro y hy hm
    rw [List.mem_singleton] at hm
    subst hm
    rcases h.rall y hy with h' | h'
    · have := hP.ref.lt y h'; omega
    · omega
  refine ⟨⟨h.pair.disk.keep hk nk, h.pair.ref.keep hk nr, h.pair.ag, h.pair.apart⟩, fun y hy => ?_, fun y hy => ?_, fun y hy => ?_, ?_, h.many, h.waits, h.steps⟩
  · rcases h.kall y hy with h' | h'
    · exact .inl h'
    · exact .inr (by omega)
  · rcases h.kfp y hy with h' | h'
    · exact .inl h'
    · exact .inr (by omega)
  · rcases h.rall y hy with h' | h'
    · exact .inl h'
    · exact .inr (by omega)
  · exact ((h0.mono (by simp)).trans' h.keeps).trans hk (fun y hy => .inr (by rw [List.mem_singleton] at hy; omega))

theorem three_new {w w1 : World} {o1 o2 o3 : Obj} {bs : List Nat} (hk : Keeps bs (((w.alloc o1).alloc o2).alloc o3).drew w1) (hb : ∀ b ∈ bs, b < w.heap.size) : w1.heap[w.heap.size]? = some o1 ∧ w1.heap[w.heap.size + 1]? = some o2 ∧ w1.heap[w.heap.size + 1 + 1]? = some o3 := by
  refine ⟨?_, ?_, ?_⟩
  · exact blk_keep (blk_keep (heap_alloc_new w o1) (((Keeps.refl [] _).alloc o2).alloc o3).drew (by simp)) hk (fun hm => by have := hb _ hm; omega)
  · have h2 := heap_alloc_new (w.alloc o1) o2
    rw [World.size_alloc] at h2
    exact blk_keep (blk_keep h2 ((Keeps.refl [] _).alloc o3).drew (by simp)) hk (fun hm => by have := hb _ hm; omega)
  · have h3 := heap_alloc_new ((w.alloc o1).alloc o2) o3
    rw [World.size_alloc, World.size_alloc] at h3
    exact blk_keep (blk_keep h3 (Keeps.refl [] _).drew (by simp)) hk (fun hm => by have := hb _ hm; omega)

set_option maxHeartbeats 2000000 in
theorem does_limit_yes (k : Dk) (r : Rf) (x : ActD) (n : Nat) (w : World) (h : Pair w k r) (h1 : x.kind = 4) (hn : x.n = (n : Int)) (h2 : n ≤ r.L.length) :
    Calls Try.prog 13 #[.pointer (some ⟨k.p, 0, none⟩), r.v, x.v] w fun e w' => e = .returned (.tuple #[.pointer (some ⟨k.p, 0, none⟩), (r.nums r.armed n r.done).v, .bool true]) ∧ Went w k r w' (k.nums n k.left k.done) (r.nums r.armed n r.done) := by
  have HP := Lib.hid h
  have hlen : r.L.length = k.S.length := by rw [← h.ag.L]; exact h.disk.len
  have LM := fun W (hk : Keeps [] w W) => Lib.hid (limit_goes k n W (h.disk.grow hk) (by rw [← hlen]; exact h2))
  have FP : Hid (∀ b ∈ k.fp, b < w.heap.size) := fun b hb => h.disk.lt b (fp_sub hb)
  have hbig := h.ref.big
  have HA := Lib.hid h.ag.left
  unfold Rf.v ActD.v
  rw [h1, hn]
  have a1 : ¬ (n : Int) < 0 := by omega
  have a2 : ¬ (r.L.length : Int) < n := by omega
  have H2 := Lib.hid h2
  have n1 : ¬ w.heap.size + 1 + 1 = w.heap.size := by omega
  have n2 : ¬ w.heap.size + 1 + 1 = w.heap.size + 1 := by omega
  clear h h1 hlen hn h2
  go_enter Try.func13, Try.ntmps13
  go_wp2_with fail
  go_region_held (fun w' => w'.cell? ⟨w.heap.size, 0, none⟩ = some (.slice r.AL r.L.length r.cL) ∧ w'.cell? ⟨w.heap.size, 1, none⟩ = some (.slice r.AW r.W.length r.cW) ∧ w'.cell? ⟨w.heap.size, 2, none⟩ = some (.int .i64 r.armed) ∧ w'.cell? ⟨w.heap.size, 3, none⟩ = some (.int .i64 (n : Int)) ∧ w'.cell? ⟨w.heap.size, 4, none⟩ = some (.int .i64 (r.done : Int)) ∧ w'.cell? ⟨w.heap.size + 1, 2, none⟩ = some (.int .i64 (n : Int))) (go_keep) (first | (go_at_call 20; refine (LM _ ((((Keeps.refl [] w).alloc _).alloc _).alloc _).drew).out.mono ?_; rintro e w2 ⟨rfl, hg⟩; obtain ⟨b0, b1, b2⟩ := three_new hg.keeps FP.out; obtain ⟨⟨x0, x1, x2, x3, x4⟩, _⟩ := five_facts b0; obtain ⟨⟨y0, y1, y2, y3, y4⟩, ⟨f0, f1, f2, f3, f4⟩⟩ := five_facts b2; have x5 := cell_of_blk b1 2; simp at x5; have hz2 := lt_of_heap b2; have HG := Lib.hid hg; clear b0 b1 b2 hg))
  all_goals
    go_wp2_with fail
    exact bodyPost_ret (v := .tuple #[.pointer (some ⟨k.p, 0, none⟩), .agg #[.slice r.AL r.L.length r.cL, .slice r.AW r.W.length r.cW, .int .i64 r.armed, .int .i64 (n : Int), .int .i64 (r.done : Int)], .bool true]) (by simp [results, Try.results13, go_sem, y0, y1, y2, y3, y4]) rfl ⟨rfl, Went.box HP.out ((((Keeps.refl [] w).alloc _).alloc _).alloc _).drew (by
      have h5 := Went.nums (HP.out.grow ((((Keeps.refl [] w).alloc _).alloc _).alloc _).drew) (Keeps.refl [] _) HG.out H2.out HP.out.disk.lo HP.out.disk.hi
      rw [HA.out] at h5
      rw [HA.out]
      exact h5) (Keeps.five (w.heap.size + 1 + 1) _ _ _ _ _) (by omega) (by simp [World.drew])⟩

end Go.Proofs.Ytadpomclnhemoaa
