/- does: Write. -/
import Derived.Test.YtadpomclnhemoaaS6
namespace Go.Proofs.Ytadpomclnhemoaa
open Go.RowKit
set_option linter.unusedVariables false

set_option maxHeartbeats 4000000 in
theorem does_write (k : Dk) (r : Rf) (x : ActD) (w : World) (no : Int) (PQ : Rf → Prop) (PK : Dk → Prop) (h : Pair w k r) (h1 : x.kind = 1) (hno : i64 no)
    (RS : ∀ W, Keeps [] w W → Calls Try.prog 29 #[r.v, .int .i64 x.at_, .slice x.A x.bs.length x.c] W fun e w' => ∃ q : Rf, e = .returned (.tuple #[q.v, .int .i64 no]) ∧ RefAt w' q ∧ (∀ b ∈ q.all, b ∈ r.all ∨ W.heap.size ≤ b) ∧ PQ q ∧ Keeps [] W w')
    (DS : ∀ W, Keeps [] w W → Calls Try.prog 17 #[.pointer (some ⟨k.p, 0, none⟩), .int .i64 x.at_, .slice x.A x.bs.length x.c] W fun e w' => e = .returned (.int .i64 no) ∧ ∃ k', Goes W k w' k' ∧ PK k')
    (hA : ∀ q k', PQ q → PK k' → Agree k' q ∧ k'.S.length = k.S.length ∧ k'.W.length ≤ k.W.length + 1 ∧ k'.done ≤ k.done + 1) :
    Calls Try.prog 13 #[.pointer (some ⟨k.p, 0, none⟩), r.v, x.v] w fun e w' => ∃ k' q, e = .returned (.tuple #[.pointer (some ⟨k'.p, 0, none⟩), q.v, .bool true]) ∧ Went w k r w' k' q := by
  have HP := Lib.hid h
  have FP : Hid (∀ b ∈ k.fp, b < w.heap.size) := fun b hb => h.disk.lt b (fp_sub hb)
  have HRS := fun W (hk : Keeps [] w W) => Lib.hid (RS W hk)
  have HDS := fun W (hk : Keeps [] w W) => Lib.hid (DS W hk)
  have HA := Lib.hid hA
  have HNO := Lib.hid hno
  obtain ⟨g1, g2⟩ := hno
  unfold Rf.v at HRS ⊢
  unfold ActD.v
  rw [h1]
  have n1 : ¬ w.heap.size + 1 + 1 = w.heap.size := by omega
  have n2 : ¬ w.heap.size + 1 + 1 = w.heap.size + 1 := by omega
  clear h h1 RS DS hA
  go_enter Try.func13, Try.ntmps13
  go_wp2_with fail
  refine (HRS _ ((((Keeps.refl [] w).alloc _).alloc _).alloc _)).out.mono ?_
  rintro e w1 ⟨q, rfl, hq, hqa, hpq, hb⟩
  obtain ⟨b0, b1, b2⟩ := three_still hb (by simp)
  have hz := lt_of_heap b2
  have B2 := Lib.hid b2
  have B1 := Lib.hid b1
  have c1 := cell_of_blk b1 1
  have c3 := cell_of_blk b1 3
  simp at c1 c3
  have n4 : ¬ w.heap.size + 1 = w1.heap.size := by omega
  have n5 : w.heap.size + 1 < w1.heap.size := by omega
  have n3 : ¬ w.heap.size + 1 + 1 = w1.heap.size := by omega
  have HQ := Lib.hid hq
  have HQA := Lib.hid hqa
  have HPQ := Lib.hid hpq
  have HB := Lib.hid hb
  clear b0 b1 b2 hq hqa hpq hb
  go_wp2_with fail
  go_region_held (fun w' => w'.cell? ⟨w1.heap.size, 0, none⟩ = some (.slice q.AL q.L.length q.cL) ∧ w'.cell? ⟨w1.heap.size, 1, none⟩ = some (.slice q.AW q.W.length q.cW) ∧ w'.cell? ⟨w1.heap.size, 2, none⟩ = some (.int .i64 q.armed) ∧ w'.cell? ⟨w1.heap.size, 3, none⟩ = some (.int .i64 (q.lim : Int)) ∧ w'.cell? ⟨w1.heap.size, 4, none⟩ = some (.int .i64 (q.done : Int)) ∧ w'.cell? ⟨w.heap.size + 1, 1, none⟩ = some (.int .i64 x.at_) ∧ w'.cell? ⟨w.heap.size + 1, 3, none⟩ = some (.slice x.A x.bs.length x.c)) (go_keep) (first
    | (go_at_call 17; refine (HDS _ (((((((Keeps.refl [] w).alloc _).alloc _).alloc _).trans' HB.out).alloc _).drew)).out.mono ?_; rintro e w2 ⟨rfl, k', hg, hpk⟩; have b0 := blk_keep (blk_keep (heap_alloc_new w1 _) (Keeps.refl [] _).drew (by simp)) hg.keeps (fun hm => by have := FP.out _ hm; omega); have b2 := blk_keep (blk_keep B2.out ((Keeps.refl [] w1).alloc _).drew (by simp)) hg.keeps (fun hm => by have := FP.out _ hm; omega); have b1 := blk_keep (blk_keep B1.out ((Keeps.refl [] w1).alloc _).drew (by simp)) hg.keeps (fun hm => by have := FP.out _ hm; omega); have z5 := cell_of_blk b1 1; have z6 := cell_of_blk b1 3; simp at z5 z6; obtain ⟨⟨z0, z1, z2, z3, z4⟩, _⟩ := five_facts b0; obtain ⟨⟨y0, y1, y2, y3, y4⟩, ⟨f0, f1, f2, f3, f4⟩⟩ := five_facts b2; have HG := Lib.hid hg; have HPK := Lib.hid hpk; clear b0 b1 b2 hg hpk))
  all_goals
    go_wp2_with fail
    obtain ⟨a1, a2, a3, a4⟩ := HA.out q k' HPQ.out HPK.out
    exact bodyPost_ret (v := .tuple #[.pointer (some ⟨k.p, 0, none⟩), .agg #[.slice q.AL q.L.length q.cL, .slice q.AW q.W.length q.cW, .int .i64 q.armed, .int .i64 (q.lim : Int), .int .i64 (q.done : Int)], .bool true]) (by simp [results, Try.results13, go_sem, y0, y1, y2, y3, y4]) rfl ⟨k', q, by rw [HG.out.p], Went.box HP.out ((((Keeps.refl [] w).alloc _).alloc _).alloc _) (Went.two (HP.out.grow ((((Keeps.refl [] w).alloc _).alloc _).alloc _)) HQ.out HQA.out HB.out ((Keeps.refl [] w1).alloc _).drew HG.out a1 a2 a3 a4) (Keeps.five (w.heap.size + 1 + 1) _ _ _ _ _) (by omega) (by simp)⟩

end Go.Proofs.Ytadpomclnhemoaa
