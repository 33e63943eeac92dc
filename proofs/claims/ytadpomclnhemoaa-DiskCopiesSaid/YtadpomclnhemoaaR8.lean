/- The document's own Crash. -/
import Derived.Test.YtadpomclnhemoaaR7
namespace Go.Proofs.Ytadpomclnhemoaa
open Go.RowKit
set_option linter.unusedVariables false

theorem step_append_opt {P : Program} {w : World} {ops : Array Oper} {o : Oper} {a : Act} {K : Act → World → Prop} {Q : Exit → Act → World → Prop} {E : Prop} (hgd : o.guard = none) (s x : Operand) (t : TypeId)
    (ho : o.op = .call { callee := .builtin .append, args := #[s, x], argTypes := #[t, t] })
    (base : Nat) (e : TypeId) (i : TypeInfo) (z : Value) (size bytes : Nat) (ht : P.underlying t = some (.slice e)) (hi : P.info? e = some i) (hz : i.zero = some z)
    (hsize : i.size = size) (hby : i.bytes = bytes) (hzs : z.cells.size = size) (hsz : 0 < size)
    (v : Value) (n : Nat) (xs : List Value) (hs : a.eval s = v) (hown : w.ownsRow base e size v n xs)
    (A : Option Addr) (m c : Nat) (news : List Value) (hx : a.eval x = .slice A m c) (hl : news.length = m * size) (hnews : Src w A m news) (h1 : ∀ u ∈ news, u.oneCell' = true)
    (h63 : n + m ≤ maxLen) (hbytes : (n + m) * bytes ≤ 140737488355328) (hbase : base ≤ w.heap.size)
    (h : ∀ v' w', w'.ownsRow base e size v' (n + m) (xs ++ news) → w.grownBy w' v.ownBlock → (v'.ownBlock = v.ownBlock ∨ v'.ownBlock = some w.heap.size) → K (a.put o.dst v') w') :
    if Region.wanted o (yielded ops a.tmps) = true then Oper.wp P o a w K Q else E := by
  have hw : Region.wanted o (yielded ops a.tmps) = true := by simp [Region.wanted, hgd]
  rw [if_pos hw]
  exact wp_append_opt s x t ho base e i z size bytes ht hi hz hsize hby hzs hsz v n xs hs hown A m c news hx hl hnews h1 h63 hbytes hbase h

theorem own_take' {w : World} {e : TypeId} {base : Nat} {Aq : Option Addr} {n cq K : Nat} {W : List Wt} (h : w.ownsRow base e 2 (.slice Aq n cq) n (wcells W)) (hn : W.length = n) (hK : K ≤ n) : w.ownsRow base e 2 (.slice Aq K cq) K (wcells (W.take K)) := by
  have ht : (wcells W).take (K * 2) = wcells (W.take K) := by
    have e : wcells W = wcells (W.take K) ++ wcells (W.drop K) := by
      rw [wcells, wcells, wcells, ← List.flatMap_append, List.take_append_drop]
    rw [e, List.take_append_of_le_length (by rw [wcells_len]; simp; omega), List.take_of_length_le (by rw [wcells_len]; simp; omega)]
  refine ⟨by rw [wcells_len]; simp; omega, ?_⟩
  rcases h.2 with ⟨h1, h2⟩ | ⟨g, cap, cur, he, hb, hh, hnc, hcm, hcs, htk⟩
  · injection h1 with h1 _ h3
    subst h1
    subst h3
    have : K = 0 := by omega
    subst this
    exact .inl ⟨rfl, rfl⟩
  · injection he with he1 _ he3
    subst he1
    subst he3
    refine .inr ⟨g, cq, cur, rfl, hb, hh, by omega, hcm, hcs, ?_⟩
    rw [← ht, ← htk, List.take_take, Nat.min_eq_left (by omega)]

/-- The end of Crash: the bytes laid, and the answer. -/
theorem crash_end {w w1 w2 : World} {r : Rf} {g c : Nat} {T : List UInt8} (h : RefAt w r) (hT : T.length = r.L.length) (k1 : Keeps [] ((w.alloc (.cells #[.slice r.AL r.L.length r.cL, .slice r.AW r.W.length r.cW, .int .i64 r.armed, .int .i64 (r.lim : Int), .int .i64 (r.done : Int)] 32)).alloc (.cells #[.slice none 0 0, .slice none 0 0, .int .i64 0, .int .i64 0, .int .i64 0] 32)) w1) (ho : w2.ownsRow w1.heap.size 5 1 (.slice (some ⟨g, 0, none⟩) r.L.length c) r.L.length (T.map bv)) (hb : Below w1.heap.size w1 w2) (a b' c' d e : Value) :
    RefAt (((((w2.setCell ⟨w.heap.size + 1, 0, none⟩ a).setCell ⟨w.heap.size + 1, 1, none⟩ b').setCell ⟨w.heap.size + 1, 2, none⟩ c').setCell ⟨w.heap.size + 1, 3, none⟩ d).setCell ⟨w.heap.size + 1, 4, none⟩ e) (Rf.still g c T (-1) r.lim 0) ∧ w.heap.size ≤ g ∧
      Below w.heap.size w (((((w2.setCell ⟨w.heap.size + 1, 0, none⟩ a).setCell ⟨w.heap.size + 1, 1, none⟩ b').setCell ⟨w.heap.size + 1, 2, none⟩ c').setCell ⟨w.heap.size + 1, 3, none⟩ d).setCell ⟨w.heap.size + 1, 4, none⟩ e) := by
  have hg := (ho.lt g rfl).1
  have hz := k1.size
  simp at hz
  refine ⟨still_at ho hT (Keeps.five (w.heap.size + 1) a b' c' d e) (by simp; omega) h.pos h.big h.lim (by omega) (by omega), by omega, ?_⟩
  exact ((((((Keeps.refl [] w).alloc _).alloc _).trans' k1).trans' (Keeps.of_below hb)).trans (Keeps.five (w.heap.size + 1) a b' c' d e) (by simp)).below (Nat.le_refl _) (by simp)

theorem fit_take {w w' : World} {r : Rf} (h : RefAt w r) (hk : Keeps [] w w') (K : Nat) : ∀ x ∈ r.W.take K, BytesAt w' x.v x.xs ∧ x.off + x.xs.length ≤ r.L.length := fun x hx => (h.grow hk).fit x (List.mem_of_mem_take hx)

set_option maxHeartbeats 4000000 in
theorem refcrash_all (r : Rf) (keep torn : Int) (K : Nat) (w : World) (h : RefAt w r) (hK : keep % ((r.W.length : Int) + 1) = (K : Int)) (hk : i64 keep) (hW : r.W.length ≤ 1000000) (hlt : ¬ K < r.W.length) :
    Calls Try.prog 32 #[r.v, .int .i64 keep, .int .i64 torn] w fun e w' => ∃ g c, e = .returned (Rf.still g c (layAll r.L (wdat (r.W.take K))) (-1) r.lim 0).v ∧ RefAt w' (Rf.still g c (layAll r.L (wdat (r.W.take K))) (-1) r.lim 0) ∧ w.heap.size ≤ g ∧ Below w.heap.size w w' := by
  have hKW : K ≤ r.W.length := by
    have h1 := Int.emod_lt_of_pos keep (show (0 : Int) < (r.W.length : Int) + 1 by omega)
    omega
  obtain ⟨iw, hiw, hzw0, hzw1, hzw2⟩ := info_parts rw_info
  have hpos := h.pos
  have hbig := h.big
  have hlim := h.lim
  have hcq := cap_of_own (show w.ownsRow 0 88 2 (.slice r.AW r.W.length r.cW) r.W.length (wcells r.W) from h.wa)
  obtain ⟨hcq1, hcq2⟩ := hcq
  have PK := fun W => Lib.hid (refpick_any keep (r.W.length : Int) K W hK hk (by omega) (by omega))
  have SW := Lib.hid (Src.of_own (own_take' h.wa rfl hKW))
  have HL1 : Hid ((wcells (r.W.take K)).length = K * 2) := by show _ = _; rw [wcells_len]; simp; omega
  have H1 : Hid (∀ u ∈ wcells (r.W.take K), u.oneCell' = true) := by
    intro u hu
    refine h.one u ?_
    have e : wcells r.W = wcells (r.W.take K) ++ wcells (r.W.drop K) := by
      rw [wcells, wcells, wcells, ← List.flatMap_append, List.take_append_drop]
    rw [e]
    exact List.mem_append_left _ hu
  have m1 : K ≤ maxLen := by unfold maxLen; omega
  have HR := Lib.hid h
  unfold Rf.v
  clear h hK hk
  go_enter Try.func32, Try.ntmps32
  go_wp2_with (first
    | (go_at_call 51; refine (PK _).out.mono ?_; rintro e w' ⟨rfl, rfl⟩)
    | (at_builtin; refine wpList_append_opt rfl (.const (.slice none 0 0)) (.tmp 18) 30 rfl w.heap.size 88 iw _ 2 32 Try.underlying30 hiw hzw0 hzw1 hzw2 rfl (by decide) (.slice none 0 0) 0 [] rfl (World.ownsRow_nil _ _ _ _) r.AW K r.cW (wcells (r.W.take K)) rfl HL1.out (SW.out.grow (((Keeps.refl [] w).alloc _).alloc _)) H1.out (by omega) (by omega) (by simp; omega) ?_; intro v1 w1 ho1 hg1 _; simp only [Nat.zero_add, List.nil_append] at ho1; have K1 := Lib.hid (Keeps.of_grown (bs := []) hg1 (by simp [Value.ownBlock])); obtain ⟨A1, c1, hv1⟩ := own_slice ho1; rw [hv1] at ho1; rw [hv1]; have HO1 := Lib.hid ho1; have q2 := blk_keep (blk_keep (heap_alloc_new w _) ((Keeps.refl [] _).alloc _) (by simp)) K1.out (by simp); have p2 := blk_keep (by have h := heap_alloc_new (w.alloc (.cells #[.slice r.AL r.L.length r.cL, .slice r.AW r.W.length r.cW, .int .i64 r.armed, .int .i64 (r.lim : Int), .int .i64 (r.done : Int)] 32)) (.cells #[.slice none 0 0, .slice none 0 0, .int .i64 0, .int .i64 0, .int .i64 0] 32); rw [World.size_alloc] at h; exact h) K1.out (by simp); obtain ⟨⟨x0, x1, x2, x3, x4⟩, _⟩ := five_facts q2; obtain ⟨⟨y0, y1, y2, y3, y4⟩, ⟨f0, f1, f2, f3, f4⟩⟩ := five_facts p2; have Q2 := Lib.hid q2; have P2 := Lib.hid p2; clear ho1 hg1 hv1 q2 p2))
  have hlay : (layAll r.L (wdat (r.W.take K))).length = r.L.length := length_layAll rfl fun y hy => by
    obtain ⟨z, hz, rfl⟩ := List.mem_map.1 hy
    exact (HR.out.fit z (List.mem_of_mem_take hz)).2
  have kw1 : Keeps [] w w1 := (((Keeps.refl [] w).alloc _).alloc _).trans' K1.out
  have LD := Lib.hid (reflaid_opt r.AL r.L.length r.cL A1 K c1 r.L (r.W.take K) w1.drew rfl hpos hbig (HR.out.grow kw1.drew).la (HO1.out.drew.mono (Nat.zero_le _)) (by simp; omega) (by omega) (fit_take HR.out kw1.drew K))
  have HLY := Lib.hid hlay
  clear hlay kw1
  go_region_with (go_at_call 36; refine LD.out.mono ?_; rintro e w2 ⟨g, c, rfl, ho2, hb2⟩; have x3' := (hb2.cell (p := ⟨w.heap.size, 3, none⟩) (lt_of_cell x3)).trans x3; have p3 := blk_keep P2.out (Keeps.of_below (bs := []) ((Below.refl _ w1).drew.trans hb2)) (by simp); obtain ⟨⟨y0', y1', y2', y3', y4'⟩, ⟨f0', f1', f2', f3', f4'⟩⟩ := five_facts p3; have HO2 := Lib.hid ho2; have HB2 := Lib.hid hb2; clear ho2 hb2 p3)
  all_goals
    go_wp2_with fail
    have hend := crash_end HR.out HLY.out K1.out HO2.out ((Below.refl _ w1).drew.trans HB2.out)
    refine bodyPost_ret (v := .agg #[.slice (some ⟨g, 0, none⟩) r.L.length c, .slice none 0 0, .int .i64 (-1), .int .i64 (r.lim : Int), .int .i64 0]) (by simp [results, Try.results32, go_sem, y0', y1', y2', y3', y4']) rfl ⟨g, c, by simp [Rf.still, HLY.out], (hend _ _ _ _ _).1, (hend (.bool true) (.bool true) (.bool true) (.bool true) (.bool true)).2.1, (hend _ _ _ _ _).2.2⟩

end Go.Proofs.Ytadpomclnhemoaa
