/- same: a disk stands as the document's. -/
import Derived.Test.YtadpomclnhemoaaR9
import Derived.Deep.RegionHeld
namespace Go.Proofs.Ytadpomclnhemoaa
open Go.RowKit
set_option linter.unusedVariables false

/-- A disk and the document's tell the same. -/
structure Agree (k : Dk) (r : Rf) : Prop where
  L : k.L = r.L
  W : wdat k.W = wdat r.W
  lim : k.lim = r.lim
  left : k.left = r.armed
  done : k.done = r.done
  ok : k.dat.ok

theorem Agree.S {k : Dk} {r : Rf} (h : Agree k r) : k.S = layAll r.L (wdat r.W) := by
  have := h.ok
  unfold Dat.ok at this
  rw [← h.L, ← h.W]
  exact this
theorem Agree.wlen {k : Dk} {r : Rf} (h : Agree k r) : k.W.length = r.W.length := by
  have := congrArg List.length h.W
  simpa [wdat] using this

set_option maxHeartbeats 8000000 in
theorem lawsame_true (k : Dk) (r : Rf) (w : World) (h : DiskAt w k) (g : RefAt w r) (ha : Agree k r) (hW : r.W.length ≤ 1000000) (hd : r.done < 4611686018427387904) :
    Calls Try.prog 14 #[.pointer (some ⟨k.p, 0, none⟩), r.v] w fun e w' => e = .returned (.bool true) ∧ Keeps [] w w' := by
  have hLn : r.L.length = k.S.length := by rw [← ha.L]; exact h.len
  have hpos := g.pos
  have hbig := g.big
  have RD := fun W (hk : Keeps [] w W) => Lib.hid (read_all k r.L.length (layAll r.L (wdat r.W)) W (h.grow hk) hLn.symm ha.S)
  have NW := fun W (hk : Keeps [] w W) => Lib.hid (refnow_any r W (g.grow hk) hW)
  have hly : (layAll r.L (wdat r.W)).length = r.L.length := length_layAll rfl fun y hy => by
    obtain ⟨z, hz, rfl⟩ := List.mem_map.1 hy
    exact (g.fit z hz).2
  obtain ⟨Aq, cq, hqv⟩ := own_slice h.wa
  have SZ := fun W (hk : Keeps [] w W) => Lib.hid (size_any k.p _ _ _ W (h.grow hk).c0 h.pos (by have := h.big; omega))
  have WT := fun W (hk : Keeps [] w W) => by
    have q2 := (h.grow hk).c2
    rw [hqv, ha.wlen] at q2
    exact Lib.hid (waits_any k.p _ _ _ _ _ _ W (h.grow hk).c0 q2 h.pos (by have := h.big; omega))
  have SP := fun W (hk : Keeps [] w W) => by
    have q5 := (h.grow hk).c5
    rw [ha.done] at q5
    exact Lib.hid (steps_any k.p _ _ _ _ W (h.grow hk).c0 q5 h.pos (by have := h.big; omega))
  have HLY := Lib.hid hly
  have HLN := Lib.hid hLn
  rw [← hLn] at SZ
  unfold Rf.v at NW ⊢
  clear h g ha hly hLn hqv
  go_enter Try.func14, Try.ntmps14
  go_wp2_with fail
  refine (RD _ ((Keeps.refl [] w).alloc _)).out.mono ?_
  rintro e w1 ⟨A1, c1, rfl, hb1, hk1⟩
  have q1 := blk_keep (heap_alloc_new w _) hk1 (by simp)
  obtain ⟨⟨x0, x1, x2, x3, x4⟩, _⟩ := five_facts q1
  have K1 := Lib.hid (((Keeps.refl [] w).alloc _).trans' hk1)
  have v1 := conv_bytes (hb1.grow (Keeps.refl [] w1).drew)
  have HB1 := Lib.hid hb1
  have hz1 := lt_of_heap q1
  have Q1 := Lib.hid q1
  clear hb1 hk1 q1 RD
  go_wp2_with fail
  go_region_held (fun w' => (w'.cell? ⟨w.heap.size, 0, none⟩ = some (.slice r.AL r.L.length r.cL) ∧ w'.cell? ⟨w.heap.size, 1, none⟩ = some (.slice r.AW r.W.length r.cW) ∧ w'.cell? ⟨w.heap.size, 2, none⟩ = some (.int .i64 r.armed) ∧ w'.cell? ⟨w.heap.size, 3, none⟩ = some (.int .i64 (r.lim : Int)) ∧ w'.cell? ⟨w.heap.size, 4, none⟩ = some (.int .i64 (r.done : Int))) ∧ Sem.run Try.prog (convert 29 9 (.slice A1 r.L.length c1)) w' = .ok (.string ⟨(layAll r.L (wdat r.W)).toArray⟩) w') (go_keep)
    (first
      | (go_at_call 16; refine (NW _ K1.out.drew).out.mono ?_; rintro e w2 ⟨gg, cc, rfl, ho2, hb2⟩; have q2 := blk_keep Q1.out (Keeps.of_below (bs := []) ((Below.refl _ w1).drew.trans hb2)) (by simp); obtain ⟨⟨z0, z1, z2, z3, z4⟩, _⟩ := five_facts q2; have K2 := Lib.hid (K1.out.trans' (Keeps.of_below ((Below.refl _ w1).drew.trans hb2))); have hb3 : BytesAt w2 (.slice (some ⟨gg, 0, none⟩) r.L.length cc) (layAll r.L (wdat r.W)) := (by have h3 := ho2; rw [← HLY.out] at h3 ⊢; exact BytesAt.of_own h3); have v2 := conv_bytes hb3; have v3 := conv_bytes (HB1.out.grow (Keeps.of_below ((Below.refl _ w1).drew.trans hb2))); clear ho2 hb2 hb3 q2)
      | (go_at_call 26; refine (SZ _ K2.out).out.mono ?_; rintro e w' ⟨rfl, rfl⟩)
      | (go_at_call 22; refine (WT _ K2.out).out.mono ?_; rintro e w' ⟨rfl, rfl⟩)
      | (go_at_call 27; refine (SP _ K2.out).out.mono ?_; rintro e w' ⟨rfl, rfl⟩))
  all_goals
    go_wp2
    go_ret
    exact ⟨rfl, K2.out⟩

end Go.Proofs.Ytadpomclnhemoaa
