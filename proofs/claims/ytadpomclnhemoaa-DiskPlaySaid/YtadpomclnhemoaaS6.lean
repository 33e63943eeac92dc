/- does: Sync. -/
import Derived.Test.YtadpomclnhemoaaS5
namespace Go.Proofs.Ytadpomclnhemoaa
open Go.RowKit
set_option linter.unusedVariables false

theorem Goes.refl {w : World} {k : Dk} (h : DiskAt w k) : Goes w k w k := ⟨h, rfl, fun b hb => .inl hb, fun b hb => .inl hb, Keeps.refl _ w⟩

/-- The document's went first, then the disk. -/
theorem Went.two {w w1 w1' w2 : World} {k k' : Dk} {r q : Rf} (hP : Pair w k r) (hq : RefAt w1 q) (ha : ∀ b ∈ q.all, b ∈ r.all ∨ w.heap.size ≤ b) (h1 : Keeps [] w w1) (h2 : Keeps [] w1 w1') (hg : Goes w1' k w2 k') (hA : Agree k' q) (hm : k'.S.length = k.S.length) (hw : k'.W.length ≤ k.W.length + 1) (hs : k'.done ≤ k.done + 1) : Went w k r w2 k' q := by
  have z1 := h1.size
  have z2 := h2.size
  have hap : ∀ b ∈ q.all, b ∉ k.fp := by
    intro b hb hf
    rcases ha b hb with h' | h'
    · exact hP.apart b h' hf
    · have := hP.disk.lt b (fp_sub hf); omega
  refine ⟨⟨hg.disk, (hq.grow h2).keep hg.keeps hap, hA, fun b hb hf => ?_⟩, fun b hb => ?_, fun b hb => ?_, ha, ((h1.trans' h2).mono (by simp)).trans' hg.keeps, hm, hw, hs⟩
  · rcases hg.fp b hf with h' | h'
    · exact hap b hb h'
    · have := hq.lt b hb; omega
  · rcases hg.all b hb with h' | h'
    · exact .inl h'
    · exact .inr (by omega)
  · rcases hg.fp b hb with h' | h'
    · exact .inl h'
    · exact .inr (by omega)

theorem three_still {w w1 : World} {o1 o2 o3 : Obj} {bs : List Nat} (hk : Keeps bs (((w.alloc o1).alloc o2).alloc o3) w1) (hb : ∀ b ∈ bs, b < w.heap.size) : w1.heap[w.heap.size]? = some o1 ∧ w1.heap[w.heap.size + 1]? = some o2 ∧ w1.heap[w.heap.size + 1 + 1]? = some o3 := by
  refine ⟨?_, ?_, ?_⟩
  · exact blk_keep (blk_keep (heap_alloc_new w o1) (((Keeps.refl [] _).alloc o2).alloc o3) (by simp)) hk (fun hm => by have := hb _ hm; omega)
  · have h2 := heap_alloc_new (w.alloc o1) o2
    rw [World.size_alloc] at h2
    exact blk_keep (blk_keep h2 ((Keeps.refl [] _).alloc o3) (by simp)) hk (fun hm => by have := hb _ hm; omega)
  · have h3 := heap_alloc_new ((w.alloc o1).alloc o2) o3
    rw [World.size_alloc, World.size_alloc] at h3
    exact blk_keep h3 hk (fun hm => by have := hb _ hm; omega)

set_option maxHeartbeats 4000000 in
theorem does_sync (k : Dk) (r : Rf) (x : ActD) (w : World) (no : Int) (PQ : Rf → Prop) (PK : Dk → Prop) (h : Pair w k r) (h1 : x.kind = 2) (hno : i64 no)
    (RS : ∀ W, Keeps [] w W → Calls Try.prog 30 #[r.v] W fun e w' => ∃ q : Rf, e = .returned (.tuple #[q.v, .int .i64 no]) ∧ RefAt w' q ∧ (∀ b ∈ q.all, b ∈ r.all ∨ W.heap.size ≤ b) ∧ PQ q ∧ Keeps [] W w')
    (DS : ∀ W, Keeps [] w W → Calls Try.prog 18 #[.pointer (some ⟨k.p, 0, none⟩)] W fun e w' => e = .returned (.int .i64 no) ∧ ∃ k', Goes W k w' k' ∧ PK k')
    (hA : ∀ q k', PQ q → PK k' → Agree k' q ∧ k'.S.length = k.S.length ∧ k'.W.length ≤ k.W.length + 1 ∧ k'.done ≤ k.done + 1) :
    Calls Try.prog 13 #[.pointer (some ⟨k.p, 0, none⟩), r.v, x.v] w fun e w' => ∃ k' q, e = .returned (.tuple #[.pointer (some ⟨k'.p, 0, none⟩), q.v, .bool true]) ∧ Went w k r w' k' q := by
  have HP := Lib.hid h
  have FP : Hid (∀ b ∈ k.fp, b < w.heap.size) := fun b hb => h.disk.lt b (fp_sub hb)
  have HRS := fun W (hk : Keeps [] w W) => Lib.hid (RS W hk)
  have HDS := fun W (hk : Keeps [] w W) => Lib.hid (DS W hk)
  have HA := Lib.hid hA
  have HNO := Lib.hid hno
  obtain ⟨g1, g2⟩ := hno
  unfold Rf.v at HRS ⊢
  unfold ActD.v
  rw [h1]
  have n1 : ¬ w.heap.size + 1 + 1 = w.heap.size := by omega
  have n2 : ¬ w.heap.size + 1 + 1 = w.heap.size + 1 := by omega
  clear h h1 RS DS hA
  go_enter Try.func13, Try.ntmps13
  go_wp2_with fail
  refine (HRS _ ((((Keeps.refl [] w).alloc _).alloc _).alloc _)).out.mono ?_
  rintro e w1 ⟨q, rfl, hq, hqa, hpq, hb⟩
  obtain ⟨b0, b1, b2⟩ := three_still hb (by simp)
  have hz := lt_of_heap b2
  have B2 := Lib.hid b2
  have n3 : ¬ w.heap.size + 1 + 1 = w1.heap.size := by omega
  have HQ := Lib.hid hq
  have HQA := Lib.hid hqa
  have HPQ := Lib.hid hpq
  have HB := Lib.hid hb
  clear b0 b1 b2 hq hqa hpq hb
  go_wp2_with fail
  go_region_held (fun w' => w'.cell? ⟨w1.heap.size, 0, none⟩ = some (.slice q.AL q.L.length q.cL) ∧ w'.cell? ⟨w1.heap.size, 1, none⟩ = some (.slice q.AW q.W.length q.cW) ∧ w'.cell? ⟨w1.heap.size, 2, none⟩ = some (.int .i64 q.armed) ∧ w'.cell? ⟨w1.heap.size, 3, none⟩ = some (.int .i64 (q.lim : Int)) ∧ w'.cell? ⟨w1.heap.size, 4, none⟩ = some (.int .i64 (q.done : Int))) (go_keep) (first
    | (go_at_call 18; refine (HDS _ (((((((Keeps.refl [] w).alloc _).alloc _).alloc _).trans' HB.out).alloc _).drew)).out.mono ?_; rintro e w2 ⟨rfl, k', hg, hpk⟩; have b0 := blk_keep (blk_keep (heap_alloc_new w1 _) (Keeps.refl [] _).drew (by simp)) hg.keeps (fun hm => by have := FP.out _ hm; omega); have b2 := blk_keep (blk_keep B2.out ((Keeps.refl [] w1).alloc _).drew (by simp)) hg.keeps (fun hm => by have := FP.out _ hm; omega); obtain ⟨⟨z0, z1, z2, z3, z4⟩, _⟩ := five_facts b0; obtain ⟨⟨y0, y1, y2, y3, y4⟩, ⟨f0, f1, f2, f3, f4⟩⟩ := five_facts b2; have HG := Lib.hid hg; have HPK := Lib.hid hpk; clear b0 b2 hg hpk))
  all_goals
    go_wp2_with fail
    obtain ⟨a1, a2, a3, a4⟩ := HA.out q k' HPQ.out HPK.out
    exact bodyPost_ret (v := .tuple #[.pointer (some ⟨k.p, 0, none⟩), .agg #[.slice q.AL q.L.length q.cL, .slice q.AW q.W.length q.cW, .int .i64 q.armed, .int .i64 (q.lim : Int), .int .i64 (q.done : Int)], .bool true]) (by simp [results, Try.results13, go_sem, y0, y1, y2, y3, y4]) rfl ⟨k', q, by rw [HG.out.p], Went.box HP.out ((((Keeps.refl [] w).alloc _).alloc _).alloc _) (Went.two (HP.out.grow ((((Keeps.refl [] w).alloc _).alloc _).alloc _)) HQ.out HQA.out HB.out ((Keeps.refl [] w1).alloc _).drew HG.out a1 a2 a3 a4) (Keeps.five (w.heap.size + 1 + 1) _ _ _ _ _) (by omega) (by simp)⟩

theorem Goes.still {w w' : World} {k : Dk} (h : DiskAt w k) (hk : Keeps [] w w') : Goes w k w' k := ⟨h.grow hk, rfl, fun b hb => .inl hb, fun b hb => .inl hb, hk.mono (by simp)⟩

theorem layAll_len {w : World} {r : Rf} (g : RefAt w r) : (layAll r.L (wdat r.W)).length = r.L.length := length_layAll rfl fun y hy => by
  obtain ⟨z, hz, rfl⟩ := List.mem_map.1 hy
  exact (g.fit z hz).2

theorem still_all {g c : Nat} {L : List UInt8} {armed : Int} {lim done : Nat} {b : Nat} (h : b ∈ (Rf.still g c L armed lim done).all) : b = g := by
  simpa [Rf.still, Rf.all, Rf.lv, Rf.wv, Value.ownBlock] using h

theorem does_sync_any (k : Dk) (r : Rf) (x : ActD) (w : World) (h : Pair w k r) (h1 : x.kind = 2) (hW : k.W.length ≤ 1000000) (hd : k.done < 4611686018427387904) :
    Calls Try.prog 13 #[.pointer (some ⟨k.p, 0, none⟩), r.v, x.v] w fun e w' => ∃ k' q, e = .returned (.tuple #[.pointer (some ⟨k'.p, 0, none⟩), q.v, .bool true]) ∧ Went w k r w' k' q := by
  have hrW : r.W.length ≤ 1000000 := by rw [← h.ag.wlen]; exact hW
  have hrd : r.done < 4611686018427387904 := by rw [← h.ag.done]; exact hd
  by_cases h0 : r.armed = 0
  · have hk0 : k.left = 0 := by rw [h.ag.left]; exact h0
    refine does_sync k r x w 111 (fun q => q = r) (fun k' => k' = k) h h1 ⟨by omega, by omega⟩ (fun W hk => (refsync_stop r W h0).mono ?_) (fun W hk => (sync_stop k W (h.disk.grow hk) hk0).mono ?_) ?_
    · rintro e w' ⟨he, hb⟩
      exact ⟨r, he, (h.ref.grow hk).grow (Keeps.of_below hb), fun b hb => .inl hb, rfl, Keeps.of_below hb⟩
    · rintro e w' ⟨he, hb⟩
      exact ⟨he, k, Goes.still (h.disk.grow hk) hb, rfl⟩
    · rintro q k' rfl rfl
      exact ⟨h.ag, rfl, Nat.le_succ _, Nat.le_succ _⟩
  · have hk0 : k.left ≠ 0 := by rw [h.ag.left]; exact h0
    refine does_sync k r x w 0 (fun q => q.L = layAll r.L (wdat r.W) ∧ q.W = [] ∧ q.armed = lessOne r.armed ∧ q.lim = r.lim ∧ q.done = r.done + 1) (fun k' => k'.dat = k.dat.sync) h h1 ⟨by omega, by omega⟩ (fun W hk => (refsync_ok r W (h.ref.grow hk) h0 hrW hrd).mono ?_) (fun W hk => (sync_dat k k.dat W (h.disk.grow hk) rfl hk0 (by simpa [Dk.dat] using hW) hd).mono fun _ _ h => h) ?_
    · rintro e w' ⟨g, c, he, hq, hg, hb⟩
      exact ⟨_, he, hq, fun b hb => .inr (by rw [still_all hb]; exact hg), ⟨rfl, rfl, rfl, rfl, rfl⟩, Keeps.of_below hb⟩
    · rintro q k' ⟨q1, q2, q3, q4, q5⟩ hk'
      have e1 : k'.W.length = 0 := by have := dat_len hk'; simpa [Dat.sync] using this
      have e2 : k'.W = [] := List.eq_nil_of_length_eq_zero e1
      have e3 : k'.L = layAll k.L (wdat k.W) := congrArg Dat.L hk'
      refine ⟨⟨?_, ?_, ?_, ?_, ?_, ?_⟩, ?_, by omega, ?_⟩
      · rw [e3, q1, h.ag.L, h.ag.W]
      · rw [e2, q2]
      · rw [q4, ← h.ag.lim]; exact dat_lim hk'
      · rw [q3, ← h.ag.left]; exact dat_left hk'
      · rw [q5, ← h.ag.done]; exact dat_done hk'
      · rw [hk']; exact ok_sync h.ag.ok
      · exact congrArg List.length (dat_S hk')
      · rw [dat_done hk']; exact Nat.le_refl _

end Go.Proofs.Ytadpomclnhemoaa
