/- does: Arm. -/
import Derived.Test.YtadpomclnhemoaaS4
namespace Go.Proofs.Ytadpomclnhemoaa
open Go.RowKit
set_option linter.unusedVariables false

set_option maxHeartbeats 4000000 in
theorem does_arm (k : Dk) (r : Rf) (x : ActD) (w : World) (h : Pair w k r) (h1 : x.kind = 3) (hn : i64 x.n) :
    Calls Try.prog 13 #[.pointer (some ⟨k.p, 0, none⟩), r.v, x.v] w fun e w' => e = .returned (.tuple #[.pointer (some ⟨k.p, 0, none⟩), (r.nums (max x.n (-1)) r.lim r.done).v, .bool true]) ∧ Went w k r w' (k.nums k.lim (max x.n (-1)) k.done) (r.nums (max x.n (-1)) r.lim r.done) := by
  have HP := Lib.hid h
  have hm1 : -1 ≤ max x.n (-1) := by omega
  have hm2 : max x.n (-1) ≤ 9223372036854775807 := by have := hn.2; omega
  have AR := fun W (hk : Keeps [] w W) => Lib.hid (arm_goes k x.n W (h.disk.grow hk) hn)
  have RA := fun W => refarm_any r x.n W hn
  generalize hm : max x.n (-1) = m at AR RA hm1 hm2 ⊢
  have RH : ∀ W, Hid (Calls Try.prog 31 #[.agg #[.slice r.AL r.L.length r.cL, .slice r.AW r.W.length r.cW, .int .i64 r.armed, .int .i64 (r.lim : Int), .int .i64 (r.done : Int)], .int .i64 x.n] W fun e w' => e = .returned (.agg #[.slice r.AL r.L.length r.cL, .slice r.AW r.W.length r.cW, .int .i64 m, .int .i64 (r.lim : Int), .int .i64 (r.done : Int)]) ∧ Below W.heap.size W w') := fun W => RA W
  have FP : Hid (∀ b ∈ k.fp, b < w.heap.size) := fun b hb => h.disk.lt b (fp_sub hb)
  have HA := Lib.hid h.ag.lim
  have HM := Lib.hid hm1
  have HN := Lib.hid hm2
  unfold Rf.v ActD.v
  rw [h1]
  have n1 : ¬ w.heap.size + 1 + 1 = w.heap.size := by omega
  have n2 : ¬ w.heap.size + 1 + 1 = w.heap.size + 1 := by omega
  clear h h1 hn RA hm hm1 hm2
  go_enter Try.func13, Try.ntmps13
  go_wp2_with fail
  go_region_held (fun w' => w'.cell? ⟨w.heap.size, 0, none⟩ = some (.slice r.AL r.L.length r.cL) ∧ w'.cell? ⟨w.heap.size, 1, none⟩ = some (.slice r.AW r.W.length r.cW) ∧ w'.cell? ⟨w.heap.size, 2, none⟩ = some (.int .i64 r.armed) ∧ w'.cell? ⟨w.heap.size, 3, none⟩ = some (.int .i64 (r.lim : Int)) ∧ w'.cell? ⟨w.heap.size, 4, none⟩ = some (.int .i64 (r.done : Int)) ∧ w'.cell? ⟨w.heap.size + 1, 2, none⟩ = some (.int .i64 x.n)) (go_keep) (first
    | (go_at_call 31; refine (RH _).out.mono ?_; rintro e w1 ⟨rfl, hb⟩; obtain ⟨b0, b1, b2⟩ := three_new (Keeps.of_below (bs := []) hb) (by simp); obtain ⟨⟨x0, x1, x2, x3, x4⟩, _⟩ := five_facts b0; have x5 := cell_of_blk b1 2; simp at x5; have KA := Lib.hid (Keeps.of_below (bs := []) hb); have K1 := Lib.hid (((((Keeps.refl [] w).alloc _).alloc _).alloc _).drew.trans' (Keeps.of_below (bs := []) hb)); clear b0 b1 b2 hb)
    | (go_at_call 19; refine (AR _ K1.out).out.mono ?_; rintro e w2 ⟨rfl, hg⟩; obtain ⟨b0, b1, b2⟩ := three_new ((KA.out.mono (by simp)).trans' hg.keeps) FP.out; obtain ⟨⟨z0, z1, z2, z3, z4⟩, _⟩ := five_facts b0; obtain ⟨⟨y0, y1, y2, y3, y4⟩, ⟨f0, f1, f2, f3, f4⟩⟩ := five_facts b2; have z5 := cell_of_blk b1 2; simp at z5; have HG := Lib.hid hg; clear b0 b1 b2 hg))
  all_goals
    go_wp2_with fail
    exact bodyPost_ret (v := .tuple #[.pointer (some ⟨k.p, 0, none⟩), .agg #[.slice r.AL r.L.length r.cL, .slice r.AW r.W.length r.cW, .int .i64 m, .int .i64 (r.lim : Int), .int .i64 (r.done : Int)], .bool true]) (by simp [results, Try.results13, go_sem, y0, y1, y2, y3, y4]) rfl ⟨rfl, Went.box HP.out ((((Keeps.refl [] w).alloc _).alloc _).alloc _).drew (by
      have h5 := Went.nums (HP.out.grow ((((Keeps.refl [] w).alloc _).alloc _).alloc _).drew) KA.out HG.out (by rw [HA.out]; exact HP.out.ref.lim) HM.out HN.out
      rw [HA.out] at h5
      rw [HA.out]
      exact h5) (Keeps.five (w.heap.size + 1 + 1) _ _ _ _ _) (by omega) (by simp [World.drew])⟩

end Go.Proofs.Ytadpomclnhemoaa
