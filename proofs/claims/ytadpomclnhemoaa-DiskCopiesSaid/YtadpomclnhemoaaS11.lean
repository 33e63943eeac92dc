/- does: a crash, and it goes on with the elder one. -/
import Derived.Test.YtadpomclnhemoaaS10
namespace Go.Proofs.Ytadpomclnhemoaa
open Go.RowKit
set_option linter.unusedVariables false

set_option maxHeartbeats 4000000 in
theorem does_crash6 (k : Dk) (r : Rf) (x : ActD) (w : World) (h : Pair w k r) (h1 : x.kind = 6) (hkp : i64 x.keep) (htn : i64 x.torn) (hW : k.W.length ≤ 1000000) :
    Calls Try.prog 13 #[.pointer (some ⟨k.p, 0, none⟩), r.v, x.v] w fun e w' => e = .returned (.tuple #[.pointer (some ⟨k.p, 0, none⟩), r.v, .bool true]) ∧ Went w k r w' k r := by
  have hrW : r.W.length ≤ 1000000 := by rw [← h.ag.wlen]; exact hW
  have HP := Lib.hid h
  have HC := fun W (hk : Keeps [] w W) => Lib.hid (crash_yes k x.keep x.torn W (h.disk.grow hk) hkp htn hW)
  have HR := fun W (hk : Keeps [] w W) => Lib.hid (refcrash_any r k.dat x.keep x.torn W (h.ref.grow hk) h.ag.L h.ag.W hkp htn hrW)
  unfold Rf.v at HR ⊢
  unfold ActD.v
  rw [h1]
  have n1 : ¬ w.heap.size + 1 + 1 = w.heap.size := by omega
  have n2 : ¬ w.heap.size + 1 + 1 = w.heap.size + 1 := by omega
  clear h h1 hrW hkp htn
  go_enter Try.func13, Try.ntmps13
  go_wp2_with fail
  refine (HC _ ((((Keeps.refl [] w).alloc _).alloc _).alloc _)).out.mono ?_
  rintro e w1 ⟨k', rfl, hd, hdat, hall, hk1⟩
  obtain ⟨b0, b1, b2⟩ := three_still hk1 (by simp)
  obtain ⟨⟨x0, x1, x2, x3, x4⟩, _⟩ := five_facts b0
  have c0 := cell_of_blk b1 0
  have c4 := cell_of_blk b1 4
  have c5 := cell_of_blk b1 5
  simp at c0 c4 c5
  have B0 := Lib.hid b0
  have B1 := Lib.hid b1
  have B2 := Lib.hid b2
  have HD := Lib.hid hd
  have HDAT := Lib.hid hdat
  have HALL := Lib.hid hall
  have HK1 := Lib.hid hk1
  clear b0 b1 b2 hd hdat hall hk1 HC
  go_wp2_with fail
  refine (HR _ (((((Keeps.refl [] w).alloc _).alloc _).alloc _).trans' HK1.out)).out.mono ?_
  rintro e w2 ⟨q, rfl, hq, hqa, hqq, hk2⟩
  have b1 := blk_keep B1.out hk2 (by simp)
  have b2 := blk_keep B2.out hk2 (by simp)
  have b0 := blk_keep B0.out hk2 (by simp)
  obtain ⟨⟨u0, u1, u2, u3, u4⟩, _⟩ := five_facts b0
  have hz0 := lt_of_heap b0
  have n6 : ¬ w.heap.size = w2.heap.size := by omega
  have n7 : ¬ w2.heap.size = w.heap.size := by omega
  have B0' := Lib.hid b0
  have B2' := Lib.hid b2
  have d0 := cell_of_blk b1 0
  simp at d0
  have hz := lt_of_heap b2
  have n3 : ¬ w.heap.size + 1 + 1 = w2.heap.size := by omega
  have n4 : ¬ w2.heap.size = w.heap.size + 1 + 1 := by omega
  have n5 : w.heap.size + 1 < w2.heap.size := by omega
  obtain ⟨⟨y0, y1, y2, y3, y4⟩, ⟨f0, f1, f2, f3, f4⟩⟩ := five_facts b2
  have HQ := Lib.hid hq
  have HQA := Lib.hid hqa
  have HQQ := Lib.hid hqq
  have HK2 := Lib.hid hk2
  obtain ⟨a1, a2, a3, a4⟩ := crash_agree HP.out HDAT.out hqq
  have SM := fun W (hk : Keeps [] w2 W) => Lib.hid (lawsame_true k' q W (HD.out.grow (hk2.trans' hk)) (hq.grow hk) a1 (by rw [hqq.2.1]; simp) (by rw [hqq.2.2.2.2]; omega))
  have KX := Lib.hid (((((Keeps.refl [] w).alloc _).alloc _).alloc _).trans' HK1.out |>.trans' hk2)
  unfold Rf.v at SM
  clear b0 b1 b2 hq hqa hqq hk2 HR a1 a2 a3 a4 x0 x1 x2 x3 x4 c0 c4 c5
  go_wp2_with fail
  go_region_held (fun w' => (w'.cell? ⟨w.heap.size, 0, none⟩ = some (.slice r.AL r.L.length r.cL) ∧ w'.cell? ⟨w.heap.size, 1, none⟩ = some (.slice r.AW r.W.length r.cW) ∧ w'.cell? ⟨w.heap.size, 2, none⟩ = some (.int .i64 r.armed) ∧ w'.cell? ⟨w.heap.size, 3, none⟩ = some (.int .i64 (r.lim : Int)) ∧ w'.cell? ⟨w.heap.size, 4, none⟩ = some (.int .i64 (r.done : Int))) ∧ w'.cell? ⟨w2.heap.size, 0, none⟩ = some (.slice q.AL q.L.length q.cL) ∧ w'.cell? ⟨w2.heap.size, 1, none⟩ = some (.slice q.AW q.W.length q.cW) ∧ w'.cell? ⟨w2.heap.size, 2, none⟩ = some (.int .i64 q.armed) ∧ w'.cell? ⟨w2.heap.size, 3, none⟩ = some (.int .i64 (q.lim : Int)) ∧ w'.cell? ⟨w2.heap.size, 4, none⟩ = some (.int .i64 (q.done : Int))) (go_keep) (first
    | (go_at_call 14; refine (SM _ ((Keeps.refl [] w2).alloc _).drew).out.mono ?_; rintro e w3 ⟨rfl, hk3⟩; have s0 := blk_keep (blk_keep B0'.out ((Keeps.refl [] w2).alloc _).drew (by simp)) hk3 (by simp); have s2 := blk_keep (blk_keep B2'.out ((Keeps.refl [] w2).alloc _).drew (by simp)) hk3 (by simp); have s3 := blk_keep (blk_keep (heap_alloc_new w2 _) (Keeps.refl [] _).drew (by simp)) hk3 (by simp); obtain ⟨⟨v0, v1, v2, v3, v4⟩, _⟩ := five_facts s0; obtain ⟨⟨z0, z1, z2, z3, z4⟩, _⟩ := five_facts s3; obtain ⟨⟨i0, i1, i2, i3, i4⟩, ⟨g0, g1, g2, g3, g4⟩⟩ := five_facts s2; have KY := Lib.hid (KX.out.trans' (((Keeps.refl [] w2).alloc _).drew.trans' hk3)); clear s0 s2 s3 hk3))
  all_goals
    go_wp2_with fail
    exact bodyPost_ret (v := .tuple #[.pointer (some ⟨k.p, 0, none⟩), .agg #[.slice r.AL r.L.length r.cL, .slice r.AW r.W.length r.cW, .int .i64 r.armed, .int .i64 (r.lim : Int), .int .i64 (r.done : Int)], .bool true]) (by simp [results, Try.results13, go_sem, i0, i1, i2, i3, i4]) rfl ⟨rfl, Went.still HP.out (KY.out.trans (Keeps.five (w.heap.size + 1 + 1) _ _ _ _ _) (fun y hy => .inr (by rw [List.mem_singleton] at hy; omega)))⟩

end Go.Proofs.Ytadpomclnhemoaa
