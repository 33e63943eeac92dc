/- The document's own Sync. -/
import Derived.Test.YtadpomclnhemoaaR6
namespace Go.Proofs.Ytadpomclnhemoaa
open Go.RowKit
set_option linter.unusedVariables false

theorem refsync_stop (r : Rf) (w : World) (h0 : r.armed = 0) :
    Calls Try.prog 30 #[r.v] w fun e w' => e = .returned (.tuple #[r.v, .int .i64 111]) ∧ Below w.heap.size w w' := by
  have ST := fun W => Lib.hid (refstep_no r W h0)
  unfold Rf.v at ST ⊢
  clear h0
  go_enter Try.func30, Try.ntmps30
  go_wp2_with fail
  refine (ST _).out.mono ?_
  rintro e w1 ⟨rfl, hb1⟩
  obtain ⟨hbx, hby, hk1⟩ := two_new hb1
  obtain ⟨⟨x0, x1, x2, x3, x4⟩, _⟩ := five_facts hbx
  obtain ⟨⟨y0, y1, y2, y3, y4⟩, ⟨f0, f1, f2, f3, f4⟩⟩ := five_facts hby
  have hz0 : w.heap.size < w1.heap.size := lt_of_heap hbx
  have hz1 : w.heap.size + 1 < w1.heap.size := lt_of_heap hby
  have HB := Lib.hid hk1
  clear hb1 hbx hby hk1
  go_wp2_with fail
  exact bodyPost_ret (v := .tuple #[.agg #[.slice r.AL r.L.length r.cL, .slice r.AW r.W.length r.cW, .int .i64 r.armed, .int .i64 (r.lim : Int), .int .i64 (r.done : Int)], .int .i64 111]) (by simp [results, Try.results30, go_sem, y0, y1, y2, y3, y4, hz1]) rfl ⟨rfl, ((HB.out.trans (Keeps.five (w.heap.size + 1) _ _ _ _ _) (by simp)).alloc _).below (Nat.le_refl _) (by simp)⟩

/-- A disk of the document's whose bytes are these, and nothing waits. -/
def Rf.still (g c : Nat) (L : List UInt8) (armed : Int) (lim done : Nat) : Rf := ⟨some ⟨g, 0, none⟩, c, none, 0, L, [], armed, lim, done⟩

theorem still_at {w wf : World} {g c n : Nat} {L : List UInt8} {armed : Int} {lim done base : Nat} {bs : List Nat} (ho : w.ownsRow base 5 1 (.slice (some ⟨g, 0, none⟩) n c) n (L.map bv)) (hn : L.length = n) (hk : Keeps bs w wf) (hb : g ∉ bs) (h1 : 0 < n) (h2 : n ≤ 262144) (h3 : lim ≤ n) (h4 : -1 ≤ armed) (h5 : armed ≤ 9223372036854775807) : RefAt wf (Rf.still g c L armed lim done) := by
  subst hn
  refine ⟨(BytesAt.of_own ho).keep hk (fun b hb' => ?_), fun b hb' => ?_, World.ownsRow_nil _ _ _ _, h1, h2, by simp [Rf.still], h3, h4, h5⟩
  · simp only [Value.ownBlock, Option.some.injEq] at hb'
    subst hb'
    exact hb
  · simp [Rf.all, Rf.still, Rf.lv, Rf.wv, Value.ownBlock] at hb'
    subst hb'
    exact Nat.lt_of_lt_of_le (ho.lt _ rfl).2 hk.size

theorem Keeps.seven {w : World} (g f : Nat) (y z a b c d e : Value) : Keeps [f, g] w (((((((w.setCell ⟨f, 0, none⟩ y).setCell ⟨f, 1, none⟩ z).setCell ⟨g, 0, none⟩ a).setCell ⟨g, 1, none⟩ b).setCell ⟨g, 2, none⟩ c).setCell ⟨g, 3, none⟩ d).setCell ⟨g, 4, none⟩ e) :=
  (((((((Keeps.refl [f, g] w).setCell (by simp) _).setCell (by simp) _).setCell (by simp) _).setCell (by simp) _).setCell (by simp) _).setCell (by simp) _).setCell (by simp) _

set_option maxHeartbeats 4000000 in
theorem refsync_ok (r : Rf) (w : World) (h : RefAt w r) (h0 : r.armed ≠ 0) (hW : r.W.length ≤ 1000000) (hd : r.done < 4611686018427387904) :
    Calls Try.prog 30 #[r.v] w fun e w' => ∃ g c, e = .returned (.tuple #[(Rf.still g c (layAll r.L (wdat r.W)) (lessOne r.armed) r.lim (r.done + 1)).v, .int .i64 0]) ∧ RefAt w' (Rf.still g c (layAll r.L (wdat r.W)) (lessOne r.armed) r.lim (r.done + 1)) ∧ w.heap.size ≤ g ∧ Below w.heap.size w w' := by
  have ST := fun W => Lib.hid (refstep_yes r W h0 h.lo h.hi hd)
  have hlay : (layAll r.L (wdat r.W)).length = r.L.length := length_layAll rfl fun y hy => by
    obtain ⟨z, hz, rfl⟩ := List.mem_map.1 hy
    exact (h.fit z hz).2
  have hpos := h.pos
  have hbig := h.big
  have hlim := h.lim
  have hlo := h.lo
  have hhi := h.hi
  have NW := fun W (hk : Keeps [] w W) => Lib.hid (refnow_any r W (h.grow hk) hW)
  have HLY := Lib.hid hlay
  unfold Rf.v at ST NW ⊢
  simp only [Rf.nums] at ST
  clear h0 h hlay
  go_enter Try.func30, Try.ntmps30
  go_wp2_with fail
  refine (ST _).out.mono ?_
  rintro e w1 ⟨rfl, hb1⟩
  obtain ⟨hbx, hby, hk1⟩ := two_new hb1
  obtain ⟨⟨x0, x1, x2, x3, x4⟩, _⟩ := five_facts hbx
  have hz0 : w.heap.size < w1.heap.size := lt_of_heap hbx
  have hz1 : w.heap.size + 1 < w1.heap.size := lt_of_heap hby
  have HK1 := Lib.hid hk1
  have HBY := Lib.hid hby
  clear hb1 hbx hby hk1
  go_wp2_with fail
  refine (NW _ (HK1.out.alloc _)).out.mono ?_
  rintro e w2 ⟨g, c, rfl, ho2, hb2⟩
  have hgb := (ho2.lt g rfl).1
  have q2 := (hb2.block w1.heap.size (by simp)).trans (heap_alloc_new w1 _)
  have p2 := (hb2.block (w.heap.size + 1) (by simp; omega)).trans ((Below.heap_alloc w1 _ _ hz1).trans HBY.out)
  obtain ⟨⟨z0, z1, z2, z3, z4⟩, ⟨g0, g1, g2, g3, g4⟩⟩ := five_facts q2
  obtain ⟨⟨y0, y1, y2, y3, y4⟩, ⟨f0, f1, f2, f3, f4⟩⟩ := five_facts p2
  have K2 := Lib.hid ((HK1.out.alloc _).trans' (Keeps.of_below hb2))
  have HO2 := Lib.hid ho2
  simp at hgb
  clear ho2 hb2 q2 p2 NW ST
  go_wp2_with fail
  have hend := fun yy zz za zb zc zd ze => still_at (armed := lessOne r.armed) (lim := r.lim) (done := r.done + 1) HO2.out HLY.out (Keeps.seven (w.heap.size + 1) w1.heap.size yy zz za zb zc zd ze) (by simp; omega) hpos hbig hlim (by unfold lessOne; split <;> omega) (by unfold lessOne; split <;> omega)
  have hbel := fun yy zz za zb zc zd ze => (K2.out.trans (Keeps.seven (w.heap.size + 1) w1.heap.size yy zz za zb zc zd ze) (by simp; omega)).below (Nat.le_refl _) (by simp)
  refine bodyPost_ret (v := .tuple #[.agg #[.slice (some ⟨g, 0, none⟩) r.L.length c, .slice none 0 0, .int .i64 (lessOne r.armed), .int .i64 (r.lim : Int), .int .i64 ((r.done : Int) + 1)], .int .i64 0]) (by simp [results, Try.results30, go_sem, y0, y1, y2, y3, y4]) rfl ⟨g, c, by simp [Rf.still, HLY.out], hend _ _ _ _ _ _ _, by omega, hbel _ _ _ _ _ _ _⟩

end Go.Proofs.Ytadpomclnhemoaa
