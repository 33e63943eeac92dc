/- does: Limit and Arm. -/
import Derived.Test.YtadpomclnhemoaaS2
namespace Go.Proofs.Ytadpomclnhemoaa
open Go.RowKit
set_option linter.unusedVariables false

theorem Dk.lt_p {w : World} {k : Dk} (h : DiskAt w k) : k.p < w.heap.size := h.lt _ (fp_sub (by simp [Dk.fp]))

/-- Numbers turned alike on both. -/
theorem Went.nums {w w1 w' : World} {k : Dk} {r : Rf} {lim : Nat} {left : Int} (h : Pair w k r) (hk : Keeps [] w w1) (hg : Goes w1 k w' (k.nums lim left k.done)) (h1 : lim ≤ r.L.length) (h2 : -1 ≤ left) (h3 : left ≤ 9223372036854775807) : Went w k r w' (k.nums lim left k.done) (r.nums left lim r.done) := by
  refine ⟨⟨hg.disk, ((h.ref.grow hk).keep hg.keeps h.apart).nums h1 h2 h3, ⟨h.ag.L, h.ag.W, rfl, rfl, h.ag.done, h.ag.ok⟩, h.apart⟩, fun b hb => .inl hb, fun b hb => .inl hb, fun b hb => .inl hb, (hk.mono (by simp)).trans' hg.keeps, rfl, Nat.le_succ _, Nat.le_succ _⟩

set_option maxHeartbeats 2000000 in
theorem does_limit_no (k : Dk) (r : Rf) (x : ActD) (w : World) (h : Pair w k r) (h1 : x.kind = 4) (hn : i64 x.n) (h2 : x.n < 0 ∨ (r.L.length : Int) < x.n) :
    Calls Try.prog 13 #[.pointer (some ⟨k.p, 0, none⟩), r.v, x.v] w fun e w' => e = .returned (.tuple #[.pointer (some ⟨k.p, 0, none⟩), r.v, .bool true]) ∧ Went w k r w' k r := by
  have HP := Lib.hid h
  have hlen : r.L.length = k.S.length := by rw [← h.ag.L]; exact h.disk.len
  have LM := fun W (hk : Keeps [] w W) => Lib.hid (limit_no k x.n W (h.disk.grow hk) (by rw [← hlen]; exact h2))
  have hbig := h.ref.big
  unfold Rf.v ActD.v
  rw [h1]
  clear h h1 hlen
  by_cases h0 : x.n < 0
  · clear h2
    go_enter Try.func13, Try.ntmps13
    go_wp2_with fail
    go_region_held (fun w' => w'.cell? ⟨w.heap.size, 0, none⟩ = some (.slice r.AL r.L.length r.cL) ∧ w'.cell? ⟨w.heap.size, 1, none⟩ = some (.slice r.AW r.W.length r.cW) ∧ w'.cell? ⟨w.heap.size, 2, none⟩ = some (.int .i64 r.armed) ∧ w'.cell? ⟨w.heap.size, 3, none⟩ = some (.int .i64 (r.lim : Int)) ∧ w'.cell? ⟨w.heap.size, 4, none⟩ = some (.int .i64 (r.done : Int)) ∧ w'.cell? ⟨w.heap.size + 1, 2, none⟩ = some (.int .i64 x.n)) (go_keep) (first | (go_at_call 20; refine (LM _ ((((Keeps.refl [] w).alloc _).alloc _).alloc _).drew).out.mono ?_; rintro e w' ⟨rfl, rfl⟩))
    all_goals
      go_wp2_with fail
      exact bodyPost_ret (v := .tuple #[.pointer (some ⟨k.p, 0, none⟩), .agg #[.slice r.AL r.L.length r.cL, .slice r.AW r.W.length r.cW, .int .i64 r.armed, .int .i64 (r.lim : Int), .int .i64 (r.done : Int)], .bool true]) (by simp [results, Try.results13, go_sem]) rfl ⟨rfl, Went.still HP.out ((((Keeps.refl [] w).alloc _).alloc _).alloc _).drew⟩
  · have h3 : (r.L.length : Int) < x.n := by omega
    clear h2
    go_enter Try.func13, Try.ntmps13
    go_wp2_with fail
    go_region_held (fun w' => w'.cell? ⟨w.heap.size, 0, none⟩ = some (.slice r.AL r.L.length r.cL) ∧ w'.cell? ⟨w.heap.size, 1, none⟩ = some (.slice r.AW r.W.length r.cW) ∧ w'.cell? ⟨w.heap.size, 2, none⟩ = some (.int .i64 r.armed) ∧ w'.cell? ⟨w.heap.size, 3, none⟩ = some (.int .i64 (r.lim : Int)) ∧ w'.cell? ⟨w.heap.size, 4, none⟩ = some (.int .i64 (r.done : Int)) ∧ w'.cell? ⟨w.heap.size + 1, 2, none⟩ = some (.int .i64 x.n)) (go_keep) (first | (go_at_call 20; refine (LM _ ((((Keeps.refl [] w).alloc _).alloc _).alloc _).drew).out.mono ?_; rintro e w' ⟨rfl, rfl⟩))
    all_goals
      go_wp2_with fail
      exact bodyPost_ret (v := .tuple #[.pointer (some ⟨k.p, 0, none⟩), .agg #[.slice r.AL r.L.length r.cL, .slice r.AW r.W.length r.cW, .int .i64 r.armed, .int .i64 (r.lim : Int), .int .i64 (r.done : Int)], .bool true]) (by simp [results, Try.results13, go_sem]) rfl ⟨rfl, Went.still HP.out ((((Keeps.refl [] w).alloc _).alloc _).alloc _).drew⟩

end Go.Proofs.Ytadpomclnhemoaa
