/- What Write answers is what the document says; a call of the loops, and what it leaves. -/
import Derived.Test.YtadpomclnhemoaaS13
namespace Go.Proofs.Ytadpomclnhemoaa
open Go.RowKit
set_option linter.unusedVariables false

theorem err_same {w : World} {k : Dk} {r : Rf} (h : Pair w k r) (a : Int) (n : Nat) : wErr k.dat a n = rErr r.L r.lim r.armed a n := by
  have h1 : k.dat.S.length = r.L.length := by
    show k.S.length = r.L.length
    rw [← h.ag.L]
    exact h.disk.len.symm
  have h2 : k.dat.lim = r.lim := h.ag.lim
  have h3 : k.dat.left = r.armed := h.ag.left
  unfold wErr rErr
  rw [h1, h2, h3]

/-- A call of a loop: what is behind it. -/
theorem pi_does {w0 wr : World} {size j : Nat} {k : Dk} {r : Rf} (h : PI w0 size j wr k r) (hj : j ≤ 100) {b o : Nat} {x : ActD} (hx : ActOk wr b o x) :
    Calls Try.prog 13 #[.pointer (some ⟨k.p, 0, none⟩), r.v, x.v] wr fun e w' => ∃ k' q, e = .returned (.tuple #[.pointer (some ⟨k'.p, 0, none⟩), q.v, .bool true]) ∧ Went wr k r w' k' q := by
  have h1 := h.wait
  have h2 := h.done
  exact does_any k r x wr h.pair hx.bytes hx.len hx.i1 hx.i2 hx.i4 hx.i5 (err_same h.pair _ _) (by omega) (by omega)

theorem pi_same {w0 wr : World} {size j : Nat} {k : Dk} {r : Rf} (h : PI w0 size j wr k r) (hj : j ≤ 100) :
    Calls Try.prog 14 #[.pointer (some ⟨k.p, 0, none⟩), r.v] wr fun e w' => e = .returned (.bool true) ∧ Keeps [] wr w' := by
  have h1 := h.wait
  have h2 := h.done
  have h3 := h.pair.ag.wlen
  have h4 := h.pair.ag.done
  exact lawsame_true k r wr h.pair.disk h.pair.ref h.pair.ag (by omega) (by omega)

/-- Behind a call of a loop: both, the box of the document's disk, and the call itself. -/
theorem pi_behind {w0 wr W w1 : World} {size j gB b o : Nat} {k k' : Dk} {r q : Rf} {x : ActD} (h : PI w0 size j wr k r) (hB : wr.heap[gB]? = some r.box ∧ gB ∉ k.all ∧ gB ∉ r.all ∧ w0.heap.size ≤ gB) (ho : ActOk w0 b o x) (hk : Keeps [] wr W) (hw : Went W k r w1 k' q) :
    PI w0 size (j + 1) w1 k' q ∧ (w1.heap[gB]? = some r.box ∧ gB ∉ k'.all ∧ gB ∉ q.all) ∧ ActOk w1 b o x ∧ b < w1.heap.size ∧ gB < w1.heap.size := by
  have h1 := (h.grow hk).went hw
  have h2 := hw.apart (blk_keep hB.1 hk (by simp)) hB.2.1 hB.2.2.1
  have h3 := ho.keep h1.keeps
  exact ⟨h1, h2, h3, lt_of_cell h3.c0, lt_of_heap h2.1⟩

/-- A box that was made ahead of the call holds what it held. -/
theorem pi_made {w0 wr w1 : World} {size j : Nat} {k k' : Dk} {r q : Rf} {ob : Obj} (h : PI w0 size j wr k r) (hw : Went (wr.alloc ob).drew k r w1 k' q) : w1.heap[wr.heap.size]? = some ob ∧ wr.heap.size ∉ k'.all ∧ wr.heap.size ∉ q.all :=
  hw.apart (blk_keep (heap_alloc_new wr _) (Keeps.refl [] _).drew (by simp)) (fun hm => by have := h.pair.disk.lt _ hm; omega) (fun hm => by have := h.pair.ref.lt _ hm; omega)

theorem five_set {w : World} {g : Nat} {a b c d e a' b' c' d' e' : Value} {t : TypeId} (h : w.heap[g]? = some (.cells #[a, b, c, d, e] t (0, 0))) :
    (((((w.setCell ⟨g, 0, none⟩ a').setCell ⟨g, 1, none⟩ b').setCell ⟨g, 2, none⟩ c').setCell ⟨g, 3, none⟩ d').setCell ⟨g, 4, none⟩ e').heap[g]? = some (.cells #[a', b', c', d', e'] t (0, 0)) := by
  simp [World.setCell, Array.getElem?_modify, h]

/-- Behind a call: both; the box of the document's disk ahead of the call (gB), and the one of that behind it (bx). -/
structure PJ (w0 : World) (size j : Nat) (W : World) (k : Dk) (r q : Rf) (gB bx : Nat) : Prop where
  pi : PI w0 size j W k q
  old : W.heap[gB]? = some r.box
  new : W.heap[bx]? = some q.box
  k1 : gB ∉ k.all
  q1 : gB ∉ q.all
  ge : w0.heap.size ≤ gB
  ne : gB ≠ bx

theorem PJ.grow {w0 W W' : World} {size j : Nat} {k : Dk} {r q : Rf} {gB bx : Nat} (h : PJ w0 size j W k r q gB bx) (hk : Keeps [] W W') : PJ w0 size j W' k r q gB bx :=
  ⟨h.pi.grow hk, blk_keep h.old hk (by simp), blk_keep h.new hk (by simp), h.k1, h.q1, h.ge, h.ne⟩

/-- The box is made behind the call. -/
theorem pj_late {w0 w1 : World} {size j gB : Nat} {k : Dk} {r q : Rf} (h : PI w0 size j w1 k q) (hB : w1.heap[gB]? = some r.box ∧ gB ∉ k.all ∧ gB ∉ q.all) (hg : w0.heap.size ≤ gB) : PJ w0 size j (w1.alloc (.cells #[.slice q.AL q.L.length q.cL, .slice q.AW q.W.length q.cW, .int .i64 q.armed, .int .i64 (q.lim : Int), .int .i64 (q.done : Int)] 32)) k r q gB w1.heap.size :=
  ⟨h.grow ((Keeps.refl [] w1).alloc _), blk_keep hB.1 ((Keeps.refl [] w1).alloc _) (by simp), heap_alloc_new w1 _, hB.2.1, hB.2.2, hg, by have := lt_of_heap hB.1; omega⟩

/-- The box was made ahead of the call. -/
theorem pj_early {w0 w1 : World} {size j gB bx : Nat} {k : Dk} {r q : Rf} {a b c d e : Value} (h : PI w0 size j w1 k q) (hB : w1.heap[gB]? = some r.box ∧ gB ∉ k.all ∧ gB ∉ q.all) (hg : w0.heap.size ≤ gB) (hM : w1.heap[bx]? = some (.cells #[a, b, c, d, e] 32 (0, 0)) ∧ bx ∉ k.all ∧ bx ∉ q.all) (h1 : w0.heap.size ≤ bx) (h2 : gB ≠ bx) :
    PJ w0 size j (((((w1.setCell ⟨bx, 0, none⟩ (.slice q.AL q.L.length q.cL)).setCell ⟨bx, 1, none⟩ (.slice q.AW q.W.length q.cW)).setCell ⟨bx, 2, none⟩ (.int .i64 q.armed)).setCell ⟨bx, 3, none⟩ (.int .i64 (q.lim : Int))).setCell ⟨bx, 4, none⟩ (.int .i64 (q.done : Int))) k r q gB bx :=
  ⟨h.turn (Keeps.five bx _ _ _ _ _) hM.2.1 hM.2.2 h1, blk_keep hB.1 (Keeps.five bx _ _ _ _ _) (by rw [List.mem_singleton]; exact h2), five_set hM.1, hB.2.1, hB.2.2, hg, h2⟩

/-- The new one is laid into the old one's box. -/
theorem PJ.laid {w0 W : World} {size j gB bx : Nat} {k : Dk} {r q : Rf} (h : PJ w0 size j W k r q gB bx) :
    PI w0 size j (((((W.setCell ⟨gB, 0, none⟩ (.slice q.AL q.L.length q.cL)).setCell ⟨gB, 1, none⟩ (.slice q.AW q.W.length q.cW)).setCell ⟨gB, 2, none⟩ (.int .i64 q.armed)).setCell ⟨gB, 3, none⟩ (.int .i64 (q.lim : Int))).setCell ⟨gB, 4, none⟩ (.int .i64 (q.done : Int))) k q ∧
    (((((W.setCell ⟨gB, 0, none⟩ (.slice q.AL q.L.length q.cL)).setCell ⟨gB, 1, none⟩ (.slice q.AW q.W.length q.cW)).setCell ⟨gB, 2, none⟩ (.int .i64 q.armed)).setCell ⟨gB, 3, none⟩ (.int .i64 (q.lim : Int))).setCell ⟨gB, 4, none⟩ (.int .i64 (q.done : Int))).heap[gB]? = some q.box ∧ gB ∉ k.all ∧ gB ∉ q.all ∧ w0.heap.size ≤ gB :=
  ⟨h.pi.turn (Keeps.five gB _ _ _ _ _) h.k1 h.q1 h.ge, five_set h.old, h.k1, h.q1, h.ge⟩

theorem pi_laid {w0 W : World} {size j gB : Nat} {k : Dk} {r q : Rf} (h : PI w0 size j W k q) (hB : W.heap[gB]? = some r.box ∧ gB ∉ k.all ∧ gB ∉ q.all) (hg : w0.heap.size ≤ gB) :
    PI w0 size j (((((W.setCell ⟨gB, 0, none⟩ (.slice q.AL q.L.length q.cL)).setCell ⟨gB, 1, none⟩ (.slice q.AW q.W.length q.cW)).setCell ⟨gB, 2, none⟩ (.int .i64 q.armed)).setCell ⟨gB, 3, none⟩ (.int .i64 (q.lim : Int))).setCell ⟨gB, 4, none⟩ (.int .i64 (q.done : Int))) k q ∧
    (((((W.setCell ⟨gB, 0, none⟩ (.slice q.AL q.L.length q.cL)).setCell ⟨gB, 1, none⟩ (.slice q.AW q.W.length q.cW)).setCell ⟨gB, 2, none⟩ (.int .i64 q.armed)).setCell ⟨gB, 3, none⟩ (.int .i64 (q.lim : Int))).setCell ⟨gB, 4, none⟩ (.int .i64 (q.done : Int))).heap[gB]? = some q.box ∧ gB ∉ k.all ∧ gB ∉ q.all ∧ w0.heap.size ≤ gB :=
  ⟨h.turn (Keeps.five gB _ _ _ _ _) hB.2.1 hB.2.2 hg, five_set hB.1, hB.2.1, hB.2.2, hg⟩

/-- What stands, as the document tells it. -/
theorem pi_now {w0 wr : World} {size j : Nat} {k : Dk} {r : Rf} (h : PI w0 size j wr k r) (hj : j ≤ 100) :
    Calls Try.prog 16 #[r.v] wr fun e w' => ∃ g c, e = .returned (.slice (some ⟨g, 0, none⟩) size c) ∧ w'.ownsRow wr.heap.size 5 1 (.slice (some ⟨g, 0, none⟩) k.S.length c) k.S.length (k.S.map bv) ∧ size ≤ c ∧ c ≤ 9223372036854775807 ∧ Keeps [] wr w' := by
  have h1 := h.wait
  have h3 := h.pair.ag.wlen
  have h4 : r.L.length = k.S.length := by rw [← h.pair.ag.L]; exact h.pair.disk.len
  refine (refnow_any r wr h.pair.ref (by omega)).mono ?_
  rintro e w' ⟨g, c, rfl, ho, hb⟩
  rw [← h.pair.ag.S, h4] at ho
  have h5 := cap_of_own ho
  refine ⟨g, c, by rw [h4, h.many], ho, by rw [← h.many]; exact h5.1, h5.2, Keeps.of_below hb⟩

end Go.Proofs.Ytadpomclnhemoaa
