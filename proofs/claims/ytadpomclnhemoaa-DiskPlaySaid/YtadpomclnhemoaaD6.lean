/- stand: a write stands, and waits. -/
import Derived.Test.YtadpomclnhemoaaD5
import Derived.StillTailTactics
import Derived.Deep.DeepCutAuto
namespace Go.Proofs.Ytadpomclnhemoaa
open Go.RowKit
set_option linter.unusedVariables false

theorem wr_info : (Try.prog.info? 77).map (fun i => (i.zero, i.size, i.bytes)) = some (some (.agg #[.int .i64 0, .slice none 0 0]), 2, 32) := by kernel_rfl

/-- A disk whose bytes that stand have turned. -/
def Dk.stands (k : Dk) (S : List UInt8) : Dk := { k with S := S }

theorem DiskAt.put {w w' : World} {k : Dk} (h : DiskAt w k) {S : List UInt8} (hl : S.length = k.S.length) (ho : w'.ownsRow 0 5 1 (.slice (some ⟨k.s, 0, none⟩) k.S.length k.cs) k.S.length (S.map bv)) (hk : Keeps [k.s] w w') : DiskAt w' (k.stands S) := by
  have hs1 : k.p ∉ [k.s] := by simp; exact h.nps
  have e : (k.stands S).sv = k.sv := by simp [Dk.stands, Dk.sv, hl]
  refine ⟨?_, ?_, own_keep h.la hk ?_, own_keep h.wa hk ?_, h.sl, ?_, ?_, ?_, ?_, ?_, h.lo, h.hi⟩
  · have := (hk.block _ (lt_of_heap h.blk) hs1).trans h.blk
    simp only [Dk.cells, e]
    exact this
  · rw [e, show (k.stands S).S = S from rfl, hl]
    exact ho
  · intro b hb; simp only [Dk.lv, Value.ownBlock, Option.some.injEq] at hb; subst hb; have := h.sl; simp; exact fun e => this e.symm
  · intro b hb; simp only [List.mem_singleton]; rintro rfl; exact h.nsq hb
  · rw [show (k.stands S).S = S from rfl, hl]; exact h.len
  · rw [show (k.stands S).S = S from rfl, hl]; exact h.pos
  · rw [show (k.stands S).S = S from rfl, hl]; exact h.big
  · intro x hx
    obtain ⟨a1, a2, a3⟩ := h.fit x hx
    refine ⟨a1.keep hk ?_, by rw [show (k.stands S).S = S from rfl, hl]; exact a2, fun b hb => ⟨Nat.lt_of_lt_of_le (a3 b hb).1 hk.size, (a3 b hb).2⟩⟩
    intro b hb
    have := (a3 b hb).2
    simp [Dk.fp] at this
    simp
    exact this.2.1
  · rw [show (k.stands S).S = S from rfl, hl]; exact h.lim

/-- A disk with one write more that waits. -/
def Dk.more (k : Dk) (q : Value) (x : Wt) : Dk := { k with q := q, W := k.W ++ [x] }

theorem DiskAt.more {w w' : World} {k : Dk} (h : DiskAt w k) {q : Value} {x : Wt} (hp : w'.heap[k.p]? = some (.cells (k.more q x).cells 62 (0, 0))) (ho : w'.ownsRow 0 77 2 q (k.W.length + 1) (wcells k.W ++ [.int .i64 (x.off : Int), x.v]))
    (hk : Keeps (k.p :: k.q.ownBlock.toList) w w') (hq : q.ownBlock = k.q.ownBlock ∨ ∃ b, q.ownBlock = some b ∧ w.heap.size ≤ b) (hx : BytesAt w x.v x.xs) (hf : x.off + x.xs.length ≤ k.S.length) (hb : ∀ b, x.v.ownBlock = some b → b < w.heap.size ∧ b ∉ k.fp) : DiskAt w' (k.more q x) := by
  have hfp : ∀ b, b < w.heap.size → b ∉ k.fp → b ∉ (k.more q x).fp := by
    intro b hlt hn hm
    simp only [Dk.fp, Dk.more, List.mem_cons, Option.mem_toList] at hn hm
    rcases hm with hm | hm | hm | hm
    · exact hn (.inl hm)
    · exact hn (.inr (.inl hm))
    · exact hn (.inr (.inr (.inl hm)))
    · rcases hq with hq | ⟨b', hq, hlb⟩
      · exact hn (.inr (.inr (.inr (by rw [← hq]; exact hm))))
      · rw [hq] at hm; injection hm with hm; omega
  have hkfp : ∀ b, b ∉ k.fp → b ∉ k.p :: k.q.ownBlock.toList := by
    intro b hn hm
    simp only [Dk.fp, List.mem_cons] at hn hm
    rcases hm with hm | hm
    · exact hn (.inl hm)
    · exact hn (.inr (.inr (.inr hm)))
  refine ⟨hp, own_keep h.st hk ?_, own_keep h.la hk ?_, ?_, h.sl, h.len, h.pos, h.big, ?_, h.lim, h.lo, h.hi⟩
  · intro b hb; simp only [Dk.sv, Value.ownBlock, Option.some.injEq] at hb; subst hb
    simp only [List.mem_cons, Option.mem_toList]
    rintro (e | e)
    · exact h.nps e.symm
    · exact h.nsq e
  · intro b hb; simp only [Dk.lv, Value.ownBlock, Option.some.injEq] at hb; subst hb
    simp only [List.mem_cons, Option.mem_toList]
    rintro (e | e)
    · exact h.npl e.symm
    · exact h.nlq e
  · have e1 : (k.more q x).W.length = k.W.length + 1 := by simp [Dk.more]
    have e2 : wcells (k.more q x).W = wcells k.W ++ [.int .i64 (x.off : Int), x.v] := by simp [Dk.more, wcells]
    rw [e1, e2]
    exact ho
  · intro y hy
    rcases List.mem_append.1 hy with hy | hy
    · obtain ⟨a1, a2, a3⟩ := h.fit y hy
      exact ⟨a1.keep hk (fun b hb => hkfp b (a3 b hb).2), a2, fun b hb => ⟨Nat.lt_of_lt_of_le (a3 b hb).1 hk.size, hfp b (a3 b hb).1 (a3 b hb).2⟩⟩
    · rw [List.mem_singleton.1 hy]
      exact ⟨hx.keep hk (fun b h' => hkfp b (hb b h').2), hf, fun b h' => ⟨Nat.lt_of_lt_of_le (hb b h').1 hk.size, hfp b (hb b h').1 (hb b h').2⟩⟩

theorem news_at {w : World} {u v : Value} {t : TypeId} : ∀ j x, [u, v][j]? = some x → (w.alloc (.cells #[u, v] t)).cell? ((⟨w.heap.size, 0, none⟩ : Addr).add j) = some x := by
  intro j x hj
  rw [add_at, Nat.zero_add, World.cell?_alloc_new]
  simpa using hj

theorem step_append_at {P : Program} {w : World} {ops : Array Oper} {o : Oper} {a : Act} {K : Act → World → Prop} {Q : Exit → Act → World → Prop} {E : Prop} (hgd : o.guard = none) (s x : Operand) (t : TypeId)
    (ho : o.op = .call { callee := .builtin .append, args := #[s, x], argTypes := #[t, t] })
    (base : Nat) (e : TypeId) (i : TypeInfo) (z : Value) (size bytes : Nat) (ht : P.underlying t = some (.slice e)) (hi : P.info? e = some i) (hz : i.zero = some z)
    (hsize : i.size = size) (hby : i.bytes = bytes) (hzs : z.cells.size = size) (hsz : 0 < size)
    (v : Value) (n : Nat) (xs : List Value) (hs : a.eval s = v) (hown : w.ownsRow base e size v n xs)
    (ad : Addr) (m c : Nat) (news : List Value) (hx : a.eval x = .slice (some ad) m c) (hl : news.length = m * size) (hnews : ∀ j u, news[j]? = some u → w.cell? (ad.add j) = some u) (h1 : ∀ u ∈ news, u.oneCell' = true)
    (h63 : n + m ≤ maxLen) (hbytes : (n + m) * bytes ≤ 140737488355328) (hbase : base ≤ w.heap.size)
    (h : ∀ v' w', w'.ownsRow base e size v' (n + m) (xs ++ news) → w.grownBy w' v.ownBlock → (v'.ownBlock = v.ownBlock ∨ v'.ownBlock = some w.heap.size) → K (a.put o.dst v') w') :
    if Region.wanted o (yielded ops a.tmps) = true then Oper.wp P o a w K Q else E := by
  have hw : Region.wanted o (yielded ops a.tmps) = true := by simp [Region.wanted, hgd]
  rw [if_pos hw]
  obtain ⟨v', w', hr, h2, h3, _, h5⟩ := run_append_own_at (P := P) w base t o.type e i z size bytes ht hi hz hsize hby hzs hsz v n xs hown ad m c news hl hnews h1 h63 hbytes hbase
  unfold Oper.wp execOp
  simp only [ho, resolve, invoke, builtin, Sem.run_bind, Sem.run_pure, Result.andThen_ok, List.map_toArray, List.map_cons, List.map_nil, hs, hx, hr]
  exact h v' w' h2 h3 h5

/-- The struct behind an append to what waits. -/
theorem blk_append {w1 w2 : World} {k : Dk} {o : Obj} {q : Value} (hd : DiskAt w1 k) (hq : k.q = q) (hg : (w1.alloc o).drew.grownBy w2 q.ownBlock) : w2.heap[k.p]? = some (.cells k.cells 62 (0, 0)) := by
  have hl := lt_of_heap hd.blk
  have h1 := hg.block k.p (by simp [World.drew]; omega) (fun e => hd.npq (by rw [hq]; exact e.symm))
  exact (h1.trans (Below.heap_alloc w1 o k.p hl)).trans hd.blk

theorem stand_end {w w1 w2 : World} {k : Dk} {off : Nat} {xs : List UInt8} {v : Value} {o1 o2 : Obj} {q : Value} {A2 : Option Addr} {c2 : Nat} (h : DiskAt w k) (hd : DiskAt w1 (k.stands (laid k.S off xs))) (hkw : Keeps [k.s] (w.alloc o1).drew w1) (hq : k.q = q)
    (hg : (w1.alloc o2).drew.grownBy w2 q.ownBlock) (ho : w2.ownsRow 0 77 2 (.slice A2 (k.W.length + 1) c2) (k.W.length + 1) (wcells k.W ++ [.int .i64 (off : Int), v]))
    (hw : (Value.slice A2 (k.W.length + 1) c2).ownBlock = q.ownBlock ∨ (Value.slice A2 (k.W.length + 1) c2).ownBlock = some (w1.alloc o2).drew.heap.size)
    (hv : BytesAt w v xs) (hf : off + xs.length ≤ k.S.length) (hb : ∀ b, v.ownBlock = some b → b < w.heap.size ∧ b ∉ k.fp) :
    DiskAt (w2.setCell ⟨k.p, 2, none⟩ (.slice A2 (k.W.length + 1) c2)) ((k.stands (laid k.S off xs)).more (.slice A2 (k.W.length + 1) c2) ⟨off, v, xs⟩) ∧
      ((Value.slice A2 (k.W.length + 1) c2).ownBlock = k.q.ownBlock ∨ ∃ b, (Value.slice A2 (k.W.length + 1) c2).ownBlock = some b ∧ w.heap.size ≤ b) ∧ Keeps k.fp w (w2.setCell ⟨k.p, 2, none⟩ (.slice A2 (k.W.length + 1) c2)) := by
  have hbl := blk_append hd hq hg
  have hk1 : Keeps k.fp w w1 := ((((Keeps.refl [k.s] w).alloc o1).drew).trans' hkw).mono (by simp [Dk.fp])
  have hk2 : Keeps (k.p :: k.q.ownBlock.toList) w1 (w2.setCell ⟨k.p, 2, none⟩ (.slice A2 (k.W.length + 1) c2)) := by
    refine Keeps.setCell ?_ (by simp) _
    refine ((Keeps.refl _ w1).alloc o2).drew.trans (Keeps.of_grown (bs := k.q.ownBlock.toList) hg (fun x hx => .inl ?_)) (fun x hx => .inl (by simp only [List.mem_cons]; exact .inr hx))
    rw [hq]
    simpa using hx
  have hsz := hk1.size
  have hsz2 : (w1.alloc o2).drew.heap.size = w1.heap.size + 1 := by simp [World.drew]
  have hfp : ∀ b, b ∉ k.fp → b ∉ (k.stands (laid k.S off xs)).fp := fun b hn => hn
  have hnew : (Value.slice A2 (k.W.length + 1) c2).ownBlock = k.q.ownBlock ∨ ∃ b, (Value.slice A2 (k.W.length + 1) c2).ownBlock = some b ∧ w1.heap.size ≤ b := by
    rcases hw with hw | hw
    · exact .inl (by rw [hq]; exact hw)
    · exact .inr ⟨_, hw, by omega⟩
  refine ⟨hd.more ?_ ?_ hk2 hnew (hv.keep ((((Keeps.refl [k.s] w).alloc o1).drew).trans' hkw) ?_) ?_ ?_, ?_, hk1.trans hk2 ?_⟩
  · rw [show ((k.stands (laid k.S off xs)).p) = k.p from rfl] at hbl ⊢
    rw [blk_set hbl 2]
    simp [Dk.cells, Dk.more, Dk.stands, Dk.sv, Dk.lv]
  · refine own_keep ho ((Keeps.refl [k.p] _).setCell (by simp) _) (fun b hb' => ?_)
    obtain ⟨cur, hc⟩ := own_heap ho hb'
    have hbl' : w2.heap[k.p]? = _ := hbl
    have := ne_of_types hbl' hc (by decide)
    simp
    exact fun e => this e.symm
  · intro b hb'
    have := (hb b hb').2
    simp [Dk.fp] at this
    simp
    exact this.2.1
  · rw [show (k.stands (laid k.S off xs)).S = laid k.S off xs from rfl, length_laid hf]
    exact hf
  · exact fun b h' => ⟨Nat.lt_of_lt_of_le (hb b h').1 hsz, (hb b h').2⟩
  · rcases hnew with h' | ⟨b, h1, h2⟩
    · exact .inl h'
    · exact .inr ⟨b, h1, by omega⟩
  · intro x hx
    simp only [List.mem_cons] at hx
    left
    rcases hx with hx | hx
    · simp [Dk.fp, hx]
    · simp only [Dk.fp, List.mem_cons]
      exact .inr (.inr (.inr hx))

set_option maxHeartbeats 400000 in
theorem stand_try (k : Dk) (off : Nat) (B : Option Addr) (n d : Nat) (xs : List UInt8) (w : World) (h : DiskAt w k) (hn : xs.length = n) (hv : BytesAt w (.slice B n d) xs) (hf : off + n ≤ k.S.length) (hb : ∀ b, (Value.slice B n d).ownBlock = some b → b < w.heap.size ∧ b ∉ k.fp) (hW : k.W.length ≤ 1000000) :
    Calls Try.prog 37 #[.pointer (some ⟨k.p, 0, none⟩), .agg #[.int .i64 (off : Int), .slice B n d]] w fun e w' => ∃ q, e = .returned (.tuple #[]) ∧ DiskAt w' ((k.stands (laid k.S off xs)).more q ⟨off, .slice B n d, xs⟩) ∧ (q.ownBlock = k.q.ownBlock ∨ ∃ b, q.ownBlock = some b ∧ w.heap.size ≤ b) ∧ Keeps k.fp w w' := by
  have c0 := h.c0
  have hlt := lt_of_heap h.blk
  have HD := Lib.hid h
  have HV := Lib.hid hv
  have HB := Lib.hid hb
  have HN := Lib.hid hn
  obtain ⟨i0, hi, hz0, hz1, hz2⟩ := info_parts wr_info
  obtain ⟨Aq, cq, hqv⟩ := own_slice h.wa
  have HQ := Lib.hid hqv
  clear h hv hb hqv
  go_enter Try.func37, Try.ntmps37
  go_wp2
  refine region_tail 5 (by kernel_rfl) (by kernel_rfl) ?_
  simp only [List.take_succ_cons, List.take_zero, List.drop_succ_cons, List.drop_zero]
  repeat still_step
  refine wpStill_nil ?_
  go_wp2_with (go_at_call 41; refine (put_any k.s k.cs k.S 0 off _ xs _ (HD.out.grow (((Keeps.refl [] w)).alloc _).drew).st (by omega) (HV.out.grow (((Keeps.refl [] w)).alloc _).drew)).mono ?_; rintro e w1 ⟨rfl, ho, hk⟩)
  have hs0 : k.s < w.heap.size := (HD.out.st.lt _ rfl).2
  have hbx : w1.heap[w.heap.size]? = some (.cells #[.int .i64 (off : Int), .slice B n d] 77 (0, 0)) := (hk.block _ (by simp [World.drew]) (by simp; omega)).trans (heap_alloc_new w _)
  have hd1 := (HD.out.grow (((Keeps.refl [] w)).alloc (.cells #[.int .i64 (off : Int), .slice B n d] 77)).drew).put (length_laid (by have := HN.out; omega)) ho hk
  have c2 := hd1.c2
  have f2 := hd1.free 2
  have hp1 := lt_of_heap hd1.blk
  rw [show (k.stands (laid k.S off xs)).q = k.q from rfl, HQ.out, show (k.stands (laid k.S off xs)).p = k.p from rfl] at c2
  rw [show (k.stands (laid k.S off xs)).p = k.p from rfl] at f2 hp1
  have b0 := cell_of_blk hbx 0
  have b1 := cell_of_blk hbx 1
  simp at b0 b1
  have hown := (hd1.wa.drew.alloc (.cells #[.int .i64 (off : Int), .slice B n d] 77))
  rw [show (k.stands (laid k.S off xs)).q = k.q from rfl, HQ.out, show (k.stands (laid k.S off xs)).W = k.W from rfl] at hown
  have HO := Lib.hid hown
  have HK := Lib.hid hk
  have HD1 := Lib.hid hd1
  have HX := Lib.hid hbx
  clear hown hk hd1 hbx ho c0
  go_region_law (refine step_append_at rfl (.tmp 14) (.tmp 16) _ rfl 0 77 i0 _ 2 32 Try.underlying60 hi hz0 hz1 hz2 rfl (by decide) (.slice Aq k.W.length cq) k.W.length (wcells k.W) rfl HO.out ⟨w1.heap.size, 0, none⟩ 1 1 [.int .i64 (off : Int), .slice B n d] rfl rfl news_at (by simp [Value.oneCell']) (by unfold maxLen; omega) (by omega) (Nat.zero_le _) ?_; intro v' w2 ho2 hg2 hw2; obtain ⟨A2, c2, rfl⟩ := own_slice ho2; have hp2 := blk_append HD1.out HQ.out hg2; have e2 := cell_of_blk hp2 2; have g2 := free_of_blk hp2 2; rw [show (k.stands (laid k.S off xs)).p = k.p from rfl] at e2 g2; simp only [Dk.cells] at e2; have HO2 := Lib.hid ho2; have HG2 := Lib.hid hg2; have HW2 := Lib.hid hw2; clear ho2 hg2 hw2 hp2)
  all_goals
    go_end0
    have hend := stand_end HD.out HD1.out HK.out HQ.out HG2.out HO2.out HW2.out HV.out (by have := HN.out; omega) HB.out
    exact ⟨_, rfl, hend.1, hend.2.1, hend.2.2⟩

end Go.Proofs.Ytadpomclnhemoaa
