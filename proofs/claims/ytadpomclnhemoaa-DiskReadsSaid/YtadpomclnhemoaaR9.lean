/- The document's own Crash where a write is torn. -/
import Derived.Test.YtadpomclnhemoaaR8
import Derived.Deep.DeepCutAuto
import Derived.Deep.RegionHeld3
namespace Go.Proofs.Ytadpomclnhemoaa
open Go.RowKit
set_option linter.unusedVariables false

theorem Src.of_new2 {w : World} {o : Obj} {u v : Value} {t : TypeId} : Src ((w.alloc o).alloc (.cells #[u, v] t)).drew (some ⟨w.heap.size + 1, 0, none⟩) 1 [u, v] := by
  have h := Src.of_new (w := w.alloc o) (u := u) (v := v) (t := t)
  rw [World.size_alloc] at h
  exact h.grow (Keeps.refl [] _).drew

theorem crash_end2 {w w1 w2 : World} {r : Rf} {g c : Nat} {T : List UInt8} (h : RefAt w r) (hT : T.length = r.L.length) (k1 : Keeps [] w w1) (hz : w.heap.size + 2 ≤ w1.heap.size) (ho : w2.ownsRow w1.heap.size 5 1 (.slice (some ⟨g, 0, none⟩) r.L.length c) r.L.length (T.map bv)) (hb : Below w1.heap.size w1 w2) (a b' c' d e : Value) :
    RefAt (((((w2.setCell ⟨w.heap.size + 1, 0, none⟩ a).setCell ⟨w.heap.size + 1, 1, none⟩ b').setCell ⟨w.heap.size + 1, 2, none⟩ c').setCell ⟨w.heap.size + 1, 3, none⟩ d).setCell ⟨w.heap.size + 1, 4, none⟩ e) (Rf.still g c T (-1) r.lim 0) ∧ w.heap.size ≤ g ∧
      Below w.heap.size w (((((w2.setCell ⟨w.heap.size + 1, 0, none⟩ a).setCell ⟨w.heap.size + 1, 1, none⟩ b').setCell ⟨w.heap.size + 1, 2, none⟩ c').setCell ⟨w.heap.size + 1, 3, none⟩ d).setCell ⟨w.heap.size + 1, 4, none⟩ e) := by
  have hg := (ho.lt g rfl).1
  refine ⟨still_at ho hT (Keeps.five (w.heap.size + 1) a b' c' d e) (by simp; omega) h.pos h.big h.lim (by omega) (by omega), by omega, ?_⟩
  exact ((k1.trans' (Keeps.of_below hb)).trans (Keeps.five (w.heap.size + 1) a b' c' d e) (by simp)).below (Nat.le_refl _) (by simp)

set_option maxHeartbeats 8000000 in
theorem refcrash_some (r : Rf) (keep torn : Int) (K T : Nat) (x : Wt) (w : World) (h : RefAt w r) (hK : keep % ((r.W.length : Int) + 1) = (K : Int)) (hx : r.W[K]? = some x) (hT : torn % ((x.xs.length : Int) + 1) = (T : Int)) (hk : i64 keep) (ht : i64 torn) (hW : r.W.length ≤ 1000000) (hlt : K < r.W.length) :
    Calls Try.prog 32 #[r.v, .int .i64 keep, .int .i64 torn] w fun e w' => ∃ g c, e = .returned (Rf.still g c (laid (layAll r.L (wdat (r.W.take K))) x.off (x.xs.take T)) (-1) r.lim 0).v ∧ RefAt w' (Rf.still g c (laid (layAll r.L (wdat (r.W.take K))) x.off (x.xs.take T)) (-1) r.lim 0) ∧ w.heap.size ≤ g ∧ Below w.heap.size w w' := by
  have hKW : K ≤ r.W.length := by omega
  have hTx : T ≤ x.xs.length := by
    have h1 := Int.emod_lt_of_pos torn (show (0 : Int) < (x.xs.length : Int) + 1 by omega)
    omega
  obtain ⟨iw, hiw, hzw0, hzw1, hzw2⟩ := info_parts rw_info
  have hpos := h.pos
  have hbig := h.big
  have hlim := h.lim
  have hcq := cap_of_own (show w.ownsRow 0 88 2 (.slice r.AW r.W.length r.cW) r.W.length (wcells r.W) from h.wa)
  obtain ⟨hcq1, hcq2⟩ := hcq
  have PK := fun W => Lib.hid (refpick_any keep (r.W.length : Int) K W hK hk (by omega) (by omega))
  have SW := Lib.hid (Src.of_own (own_take' h.wa rfl hKW))
  have HL1 : Hid ((wcells (r.W.take K)).length = K * 2) := by show _ = _; rw [wcells_len]; simp; omega
  have H1 : Hid (∀ u ∈ wcells (r.W.take K), u.oneCell' = true) := by
    intro u hu
    refine h.one u ?_
    have e : wcells r.W = wcells (r.W.take K) ++ wcells (r.W.drop K) := by
      rw [wcells, wcells, wcells, ← List.flatMap_append, List.take_append_drop]
    rw [e]
    exact List.mem_append_left _ hu
  have m1 : K ≤ maxLen := by unfold maxLen; omega
  obtain ⟨f, x', rx, hAW, hxx, hxl, hxn, hxm, hfl, c0, c1⟩ := pick_of (show w.ownsRow 0 88 2 (.slice r.AW r.W.length r.cW) r.W.length (wcells r.W) from h.wa) rfl hlt
  have hxe : x' = x := by
    have : r.W[K]? = some x' := by rw [hxx, List.getElem?_append_right (by omega), hxl]; simp
    rw [hx] at this
    injection this with this
    exact this.symm
  subst hxe
  obtain ⟨hxb, hxf⟩ := h.fit x' hxm
  obtain ⟨Ax, cx, ex, _⟩ := id hxb
  rw [ex] at c1
  have hxb2 := hxb
  rw [ex] at hxb2
  obtain ⟨hbt, hbl, _, hxc, hxc2⟩ := hxb2.take T hTx
  have PT := fun W => Lib.hid (refpick_any torn (x'.xs.length : Int) T W hT ht (by omega) (by omega))
  have HBT := Lib.hid hbt
  have HBL := Lib.hid hbl
  have HXN := Lib.hid hxn
  have HR := Lib.hid h
  have HAW := Lib.hid hAW
  have hxs : x'.xs.length ≤ 262144 := by omega
  unfold Rf.v
  rw [hAW]
  have k0 := fun (W : World) (hk : Keeps [] w W) => (hk.cell (p := ⟨f, K * 2, none⟩) hfl (by simp)).trans c0
  have k1 := fun (W : World) (hk : Keeps [] w W) => (hk.cell (p := ⟨f, K * 2 + 1, none⟩) hfl (by simp)).trans c1
  have HK0 := Lib.hid k0
  have HK1 := Lib.hid k1
  clear h hK hk hx hT ht hAW hxx hxl hxn hxb ex hxb2 hbt hbl c0 c1 k0 k1
  go_enter Try.func32, Try.ntmps32
  go_wp2_with (first
    | (go_at_call 51; refine (PK _).out.mono ?_; rintro e w' ⟨rfl, rfl⟩)
    | (at_builtin; refine wpList_append_opt rfl (.const (.slice none 0 0)) (.tmp 18) 30 rfl (w.heap.size + 2) 88 iw _ 2 32 Try.underlying30 hiw hzw0 hzw1 hzw2 rfl (by decide) (.slice none 0 0) 0 [] rfl (World.ownsRow_nil _ _ _ _) (some ⟨f, 0, none⟩) K r.cW (wcells (r.W.take K)) rfl HL1.out (by have := SW.out; rw [HAW.out] at this; exact this.grow (((Keeps.refl [] w).alloc _).alloc _)) H1.out (by omega) (by omega) (by simp) ?_; intro v1 w1 ho1 hg1 _; simp only [Nat.zero_add, List.nil_append] at ho1; have K1 := Lib.hid (Keeps.of_grown (bs := []) hg1 (by simp [Value.ownBlock])); obtain ⟨A1, c1, hv1⟩ := own_slice ho1; rw [hv1] at ho1; rw [hv1]; have HO1 := Lib.hid ho1; have q2 := blk_keep (blk_keep (heap_alloc_new w _) ((Keeps.refl [] _).alloc _) (by simp)) K1.out (by simp); have p2 := blk_keep (by have h := heap_alloc_new (w.alloc (.cells #[.slice r.AL r.L.length r.cL, .slice (some ⟨f, 0, none⟩) r.W.length r.cW, .int .i64 r.armed, .int .i64 (r.lim : Int), .int .i64 (r.done : Int)] 32)) (.cells #[.slice none 0 0, .slice none 0 0, .int .i64 0, .int .i64 0, .int .i64 0] 32); rw [World.size_alloc] at h; exact h) K1.out (by simp); obtain ⟨⟨x0, x1, x2, x3, x4⟩, _⟩ := five_facts q2; obtain ⟨⟨y0, y1, y2, y3, y4⟩, ⟨f0, f1, f2, f3, f4⟩⟩ := five_facts p2; have kw1 : Keeps [] w w1 := (((Keeps.refl [] w).alloc _).alloc _).trans' K1.out; have j0 := HK0.out w1 kw1; have j1 := HK1.out w1 kw1; have KW1 := Lib.hid kw1; have Q2 := Lib.hid q2; have P2 := Lib.hid p2; clear ho1 hg1 hv1 q2 p2 kw1))
  have hT0 : 0 ≤ (T : Int) := by omega
  have hTc : (T : Int) ≤ (cx : Int) := by omega
  have hTn : T ≤ cx := by omega
  go_upto_region 5 with fail
  go_cut [8] (fun s8 wx => ∃ A4 c4, s8 = .slice A4 (K + 1) c4 ∧ Hid (wx.ownsRow (w.heap.size + 2) 88 2 (.slice A4 (K + 1) c4) (K + 1) (wcells (r.W.take K) ++ [.int .i64 (x'.off : Int), .slice Ax T cx])) ∧ Hid (Keeps (Value.slice A1 K c1).ownBlock.toList w1 wx))
  case first =>
    go_region_held3 (fun w' => w'.cell? ⟨w1.heap.size, 0, none⟩ = some (.int .i64 (x'.off : Int)) ∧ w'.cell? ⟨w1.heap.size, 1, none⟩ = some (.slice Ax x'.xs.length cx)) (go_keep) (first
      | (go_at_call 51; refine (PT _).out.mono ?_; rintro e w' ⟨rfl, rfl⟩)
      | (refine step_append_opt rfl (.tmp 30) (.tmp 42) 30 rfl (w.heap.size + 2) 88 iw _ 2 32 Try.underlying30 hiw hzw0 hzw1 hzw2 rfl (by decide) (.slice A1 K c1) K (wcells (r.W.take K)) rfl (own_keep HO1.out (((Keeps.refl [] w1).alloc _).alloc _).drew (by simp)) (some ⟨w1.heap.size + 1, 0, none⟩) 1 1 [.int .i64 (x'.off : Int), .slice Ax T cx] rfl rfl Src.of_new2 (by simp [Value.oneCell']) (by unfold maxLen; omega) (by omega) (by have := K1.out.size; simp at this; simp [World.drew]; omega) ?_; intro v4 w4 ho4 hg4 _; obtain ⟨A4, c4, hv4⟩ := own_slice ho4; rw [hv4] at ho4; rw [hv4]; have HO4 := Lib.hid ho4; have u4 := blk_keep (blk_keep (heap_alloc_new w1 _) ((Keeps.refl [] _).alloc _).drew (by simp)) (Keeps.of_grown (bs := (Value.slice A1 K c1).ownBlock.toList) hg4 (fun y hy => .inl (by simpa using hy))) (fun hm => by have := (HO1.out.lt _ (by simpa using hm)).2; omega); have s0 := cell_of_blk u4 0; have s1 := cell_of_blk u4 1; simp at s0 s1; clear u4; have K4 := Lib.hid (((((Keeps.refl [] w1).alloc _).alloc _).drew.mono (cs := (Value.slice A1 K c1).ownBlock.toList) (by simp)).trans' (Keeps.of_grown hg4 (fun y hy => .inl (by simpa using hy)))); clear ho4 hg4 hv4))
    all_goals
      go_wp2_with fail
      go_meet
      exact ⟨A4, c4, rfl, HO4.out, K4.out⟩
  case rest =>
    obtain ⟨A4, c4, rfl, HO4, K4⟩ := hcut
    have hA1 : ∀ b ∈ (Value.slice A1 K c1).ownBlock.toList, w.heap.size + 2 ≤ b := fun b hb => (HO1.out.lt b (by simpa using hb)).1
    have kwc : Keeps [] w wc := KW1.out.trans K4.out (fun y hy => .inr (by have := hA1 y hy; omega))
    have hwd : wcells (r.W.take K ++ [⟨x'.off, .slice Ax T cx, x'.xs.take T⟩]) = wcells (r.W.take K) ++ [.int .i64 (x'.off : Int), .slice Ax T cx] := by simp [wcells]
    have hly : layAll r.L (wdat (r.W.take K ++ [⟨x'.off, .slice Ax T cx, x'.xs.take T⟩])) = laid (layAll r.L (wdat (r.W.take K))) x'.off (x'.xs.take T) := by rw [wdat, List.map_append]; exact layAll_snoc _ _ _
    have hll : (laid (layAll r.L (wdat (r.W.take K))) x'.off (x'.xs.take T)).length = r.L.length := by
      have h1 : (layAll r.L (wdat (r.W.take K))).length = r.L.length := length_layAll rfl fun y hy => by
        obtain ⟨z, hz, rfl⟩ := List.mem_map.1 hy
        exact (HR.out.fit z (List.mem_of_mem_take hz)).2
      rw [length_laid (by have := HBL.out; omega)]
      exact h1
    have LD := reflaid_opt r.AL r.L.length r.cL A4 (K + 1) c4 r.L (r.W.take K ++ [⟨x'.off, .slice Ax T cx, x'.xs.take T⟩]) wc.drew rfl hpos hbig (HR.out.grow kwc.drew).la (by rw [hwd]; exact HO4.out.drew.mono (Nat.zero_le _)) (by simp; omega) (by omega) (fun y hy => by
      rcases List.mem_append.1 hy with hy | hy
      · exact fit_take HR.out kwc.drew K y hy
      · rw [List.mem_singleton.1 hy]
        exact ⟨HBT.out.grow kwc.drew, by have := HBL.out; show x'.off + (x'.xs.take T).length ≤ _; omega⟩)
    rw [hly] at LD
    have LDH := Lib.hid LD
    have HLL := Lib.hid hll
    have KWC := Lib.hid kwc
    have q3 := blk_keep Q2.out K4.out (fun hm => by have := hA1 _ hm; omega)
    have p3 := blk_keep P2.out K4.out (fun hm => by have := hA1 _ hm; omega)
    obtain ⟨⟨x0', x1', x2', x3', x4'⟩, _⟩ := five_facts q3
    have Q3 := Lib.hid q3
    have P3 := Lib.hid p3
    clear LD hly hll hwd kwc q3 p3 hA1 x0 x1 x2 x3 x4 y0 y1 y2 y3 y4 f0 f1 f2 f3 f4
    go_wp2_with fail
    go_region_with (go_at_call 36; refine LDH.out.mono ?_; rintro e w2 ⟨g, c, rfl, ho2, hb2⟩; have x3'' := (hb2.cell (p := ⟨w.heap.size, 3, none⟩) (lt_of_cell x3')).trans x3'; have p4 := blk_keep P3.out (Keeps.of_below (bs := []) ((Below.refl _ wc).drew.trans hb2)) (by simp); obtain ⟨⟨y0', y1', y2', y3', y4'⟩, ⟨f0', f1', f2', f3', f4'⟩⟩ := five_facts p4; have HO2 := Lib.hid ho2; have HB2 := Lib.hid hb2; clear ho2 hb2 p4)
    all_goals
      go_wp2_with fail
      have hend := crash_end2 HR.out HLL.out KWC.out (lt_of_heap P3.out) HO2.out ((Below.refl _ wc).drew.trans HB2.out)
      refine bodyPost_ret (v := .agg #[.slice (some ⟨g, 0, none⟩) r.L.length c, .slice none 0 0, .int .i64 (-1), .int .i64 (r.lim : Int), .int .i64 0]) (by simp [results, Try.results32, go_sem, y0', y1', y2', y3', y4']) rfl ⟨g, c, by simp [Rf.still, HLL.out], (hend _ _ _ _ _).1, (hend (.bool true) (.bool true) (.bool true) (.bool true) (.bool true)).2.1, (hend _ _ _ _ _).2.2⟩

end Go.Proofs.Ytadpomclnhemoaa
