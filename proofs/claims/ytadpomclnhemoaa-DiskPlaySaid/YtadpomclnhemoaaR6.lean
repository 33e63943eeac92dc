/- The document's own Write, done. -/
import Derived.Test.YtadpomclnhemoaaR5
namespace Go.Proofs.Ytadpomclnhemoaa
open Go.RowKit
set_option linter.unusedVariables false

theorem rw_info : (Try.prog.info? 88).map (fun i => (i.zero, i.size, i.bytes)) = some (some (.agg #[.int .i64 0, .slice none 0 0]), 2, 32) := by kernel_rfl

theorem RefAt.one {w : World} {r : Rf} (h : RefAt w r) : ∀ u ∈ wcells r.W, u.oneCell' = true := by
  intro u hu
  simp only [wcells, List.mem_flatMap] at hu
  obtain ⟨x, hx, hu⟩ := hu
  simp only [List.mem_cons, List.not_mem_nil, or_false] at hu
  rcases hu with rfl | rfl
  · rfl
  · obtain ⟨A, c, e, _⟩ := (h.fit x hx).1
    rw [e]
    rfl

theorem wcells_len (D : List Wt) : (wcells D).length = D.length * 2 := by
  induction D with
  | nil => rfl
  | cons y D ih => simp only [wcells, List.flatMap_cons, List.length_append, List.length_cons, List.length_nil] at ih ⊢; omega

def Rf.wrote (r : Rf) (A : Option Addr) (c off : Nat) (v : Value) (xs : List UInt8) : Rf := ⟨r.AL, r.cL, A, c, r.L, r.W ++ [⟨off, v, xs⟩], lessOne r.armed, r.lim, r.done + 1⟩

theorem RefAt.wrote {w w' : World} {r : Rf} (h : RefAt w r) (hk : Keeps [] w w') {A : Option Addr} {c off : Nat} {v : Value} {xs : List UInt8} (ho : w'.ownsRow 0 88 2 (.slice A (r.W.length + 1) c) (r.W.length + 1) (wcells r.W ++ [.int .i64 (off : Int), v])) (hv : BytesAt w' v xs) (hvb : ∀ b, v.ownBlock = some b → b < w'.heap.size) (hf : off + xs.length ≤ r.L.length) : RefAt w' (r.wrote A c off v xs) := by
  have g := h.grow hk
  have e1 : (r.wrote A c off v xs).W.length = r.W.length + 1 := by simp [Rf.wrote]
  have e2 : wcells (r.wrote A c off v xs).W = wcells r.W ++ [.int .i64 (off : Int), v] := by simp [Rf.wrote, wcells]
  refine ⟨g.la, ?_, ?_, g.pos, g.big, ?_, g.lim, ?_, ?_⟩
  · intro b hb
    simp only [Rf.all, Rf.lv, Rf.wv, Rf.wrote, List.mem_append, List.filterMap_append, Option.mem_toList] at hb
    rcases hb with hb | hb | hb | hb
    · exact g.lt b (by simp only [Rf.all, Rf.lv, List.mem_append, Option.mem_toList]; exact .inl hb)
    · have hb' : (Value.slice A (r.W.length + 1) c).ownBlock = some b := by simpa [Value.ownBlock] using hb
      exact (ho.lt b hb').2
    · exact g.lt b (by simp only [Rf.all, List.mem_append]; exact .inr (.inr hb))
    · obtain ⟨x, hx, hb⟩ := List.mem_filterMap.1 hb
      rw [List.mem_singleton.1 hx] at hb
      exact hvb b hb
  · unfold Rf.wv
    rw [e1, e2]
    exact ho
  · intro x hx
    rcases List.mem_append.1 hx with hx | hx
    · exact g.fit x hx
    · rw [List.mem_singleton.1 hx]
      exact ⟨hv, hf⟩
  · show -1 ≤ lessOne r.armed
    have := h.lo
    unfold lessOne; split <;> omega
  · show lessOne r.armed ≤ _
    have := h.hi
    unfold lessOne; split <;> omega

theorem Src.of_new {w : World} {u v : Value} {t : TypeId} : Src (w.alloc (.cells #[u, v] t)) (some ⟨w.heap.size, 0, none⟩) 1 [u, v] :=
  ⟨fun h => (by cases h), fun ad hA => by injection hA with hA; subst hA; exact news_at⟩

theorem blk_keep {w w' : World} {g : Nat} {o : Obj} {bs : List Nat} (h : w.heap[g]? = some o) (hk : Keeps bs w w') (hb : g ∉ bs) : w'.heap[g]? = some o := (hk.block g (lt_of_heap h) hb).trans h

theorem wrote_end {w w1 w2 w3 w4 : World} {r : Rf} {O : Obj} {off n c2 c3 : Nat} {A2 A3 : Option Addr} {xs : List UInt8} {v1 : Value} (h : RefAt w r) (hn : xs.length = n) (hf : off + n ≤ r.L.length) (hz : w.heap.size + 1 < w1.heap.size) (k1 : Keeps [] w w1) (k12 : Keeps [] (w1.alloc O) w2) (k23 : Keeps [] w2 w3)
    (ho1 : w2.ownsRow (w1.heap.size + 1) 88 2 v1 r.W.length (wcells r.W)) (ho2 : w3.ownsRow (w1.heap.size + 1) 5 1 (.slice A2 n c2) n (xs.map bv)) {o3 : Obj} (k34 : Keeps v1.ownBlock.toList (w3.alloc o3) w4)
    (ho3 : w4.ownsRow (w1.heap.size + 1) 88 2 (.slice A3 (r.W.length + 1) c3) (r.W.length + 1) (wcells r.W ++ [.int .i64 (off : Int), .slice A2 n c2])) {wf : World} (kf : Keeps [w1.heap.size, w.heap.size + 1] w4 wf) :
    RefAt wf (r.wrote A3 c3 off (.slice A2 n c2) xs) ∧ (∀ b ∈ (r.wrote A3 c3 off (.slice A2 n c2) xs).all, b ∈ r.all ∨ w.heap.size ≤ b) ∧ Below w.heap.size w wf := by
  have z1 := k1.size
  have hv1 : ∀ b ∈ v1.ownBlock.toList, w1.heap.size + 1 ≤ b := fun b hb => (ho1.lt b (by simpa using hb)).1
  have k4 : Keeps [] w w4 := ((((k1.alloc O).trans' k12).trans' k23).alloc o3).trans k34 (fun x hx => .inr (by have := hv1 x hx; omega))
  have kk : Keeps [] w wf := k4.trans kf (fun x hx => .inr (by simp at hx; omega))
  have hv2 : ∀ b, (Value.slice A2 n c2).ownBlock = some b → w1.heap.size + 1 ≤ b ∧ b < w3.heap.size ∧ b ∉ v1.ownBlock.toList := by
    intro b hb
    obtain ⟨a1, a2⟩ := ho2.lt b hb
    refine ⟨a1, a2, fun hm => ?_⟩
    obtain ⟨cu, hcu⟩ := own_heap (own_keep ho1 k23 (by simp)) (b := b) (by simpa using hm)
    obtain ⟨cv, hcv⟩ := own_heap ho2 hb
    exact ne_of_types hcu hcv (by decide) rfl
  have hb2 : BytesAt wf (.slice A2 n c2) xs := by
    have hb3 : BytesAt w3 (.slice A2 n c2) xs := by subst hn; exact BytesAt.of_own ho2
    have hb4 : BytesAt w4 (.slice A2 n c2) xs := (hb3.grow ((Keeps.refl [] w3).alloc o3)).keep k34 (fun b hb => (hv2 b hb).2.2)
    refine hb4.keep kf (fun b hb hm => ?_)
    have := (hv2 b hb).1
    simp at hm
    omega
  have ho4 : wf.ownsRow 0 88 2 (.slice A3 (r.W.length + 1) c3) (r.W.length + 1) (wcells r.W ++ [.int .i64 (off : Int), .slice A2 n c2]) := by
    refine own_keep (ho3.mono (Nat.zero_le _)) kf (fun b hb hm => ?_)
    have := (ho3.lt b hb).1
    simp at hm
    omega
  refine ⟨h.wrote kk ho4 hb2 (fun b hb => ?_) (by omega), ?_, kk.below (Nat.le_refl _) (by simp)⟩
  · have h1 := (hv2 b hb).2.1
    have h2 := k34.size
    have h3 := kf.size
    simp at h2
    omega
  · intro b hb
    simp only [Rf.all, Rf.lv, Rf.wv, Rf.wrote, List.mem_append, List.filterMap_append, Option.mem_toList] at hb ⊢
    rcases hb with hb | hb | hb | hb
    · exact .inl (.inl hb)
    · right
      have hb' : (Value.slice A3 (r.W.length + 1) c3).ownBlock = some b := by simpa [Value.ownBlock] using hb
      have := (ho3.lt b hb').1
      omega
    · exact .inl (.inr (.inr hb))
    · right
      obtain ⟨x, hx, hb⟩ := List.mem_filterMap.1 hb
      rw [List.mem_singleton.1 hx] at hb
      have := (hv2 b hb).1
      omega

theorem Keeps.six {w : World} (g f : Nat) (z a b c d e : Value) : Keeps [f, g] w ((((((w.setCell ⟨f, 1, none⟩ z).setCell ⟨g, 0, none⟩ a).setCell ⟨g, 1, none⟩ b).setCell ⟨g, 2, none⟩ c).setCell ⟨g, 3, none⟩ d).setCell ⟨g, 4, none⟩ e) :=
  ((((((Keeps.refl [f, g] w).setCell (by simp) _).setCell (by simp) _).setCell (by simp) _).setCell (by simp) _).setCell (by simp) _).setCell (by simp) _

set_option maxHeartbeats 4000000 in
theorem refwrite_ok (r : Rf) (off : Nat) (B : Option Addr) (n c : Nat) (xs : List UInt8) (w : World) (h : RefAt w r) (hn : xs.length = n) (hB : BytesAt w (.slice B n c) xs) (hf : off + n ≤ r.L.length) (hl : n = 0 ∨ off + n ≤ r.lim) (h0 : r.armed ≠ 0) (hW : r.W.length ≤ 1000000) (hd : r.done < 4611686018427387904) :
    Calls Try.prog 29 #[r.v, .int .i64 (off : Int), .slice B n c] w fun e w' => ∃ A c' v, e = .returned (.tuple #[(r.wrote A c' off v xs).v, .int .i64 0]) ∧ RefAt w' (r.wrote A c' off v xs) ∧ (∀ b ∈ (r.wrote A c' off v xs).all, b ∈ r.all ∨ w.heap.size ≤ b) ∧ Below w.heap.size w w' := by
  have ST := fun W => Lib.hid (refstep_yes r W h0 h.lo h.hi hd)
  obtain ⟨iu, hiu, hzu0, hzu1, hzu2⟩ := info_parts u8_info
  obtain ⟨iw, hiw, hzw0, hzw1, hzw2⟩ := info_parts rw_info
  have hbig := h.big
  have hlim := h.lim
  have SW := Lib.hid (Src.of_own h.wa)
  have SB := Lib.hid (Src.of_bytes hB)
  have H1 := Lib.hid h.one
  have HL1 := Lib.hid (wcells_len r.W)
  have HL2 : Hid ((xs.map bv).length = n * 1) := by show _ = _; simp [hn]
  have HR := Lib.hid h
  have HN := Lib.hid hn
  unfold Rf.v at ST ⊢
  simp only [Rf.nums] at ST
  have a1 : ¬ (off : Int) < 0 := by omega
  have a2 : ¬ (r.L.length : Int) < off := by omega
  have a3 : ¬ (r.L.length : Int) - off < n := by omega
  have m1 : r.W.length ≤ maxLen := by unfold maxLen; omega
  have m2 : n ≤ maxLen := by unfold maxLen; omega
  clear h0 h hB hn
  by_cases hn : n = 0
  · have a4 : ¬ (0 : Int) < n := by omega
    clear hn hl
    go_enter Try.func29, Try.ntmps29
    go_wp2_with fail
    refine (ST _).out.mono ?_
    rintro e w1 ⟨rfl, hb1⟩
    obtain ⟨hbx, hby, hk1⟩ := two_new hb1
    obtain ⟨⟨x0, x1, x2, x3, x4⟩, _⟩ := five_facts hbx
    have hz0 : w.heap.size < w1.heap.size := lt_of_heap hbx
    have hz1 : w.heap.size + 1 < w1.heap.size := lt_of_heap hby
    have HK1 := Lib.hid hk1
    have HBY := Lib.hid hby
    clear hb1 hbx hby hk1
    go_wp2_with (first
      | (at_builtin; refine wpList_append_opt rfl (.const (.slice none 0 0)) (.tmp 52) 30 rfl (w1.heap.size + 1) 88 iw _ 2 32 Try.underlying30 hiw hzw0 hzw1 hzw2 rfl (by decide) (.slice none 0 0) 0 [] rfl (World.ownsRow_nil _ _ _ _) r.AW r.W.length r.cW (wcells r.W) rfl HL1.out (SW.out.grow (HK1.out.alloc _)) H1.out (by omega) (by omega) (by simp) ?_; intro v1 w2 ho1 hg1 _; simp only [Nat.zero_add, List.nil_append] at ho1; have K12 := Lib.hid (Keeps.of_grown (bs := []) hg1 (by simp [Value.ownBlock])); have HO1 := Lib.hid ho1; clear ho1 hg1)
      | (at_builtin; refine wpList_append_opt rfl (.const (.slice none 0 0)) (.tmp 55) 29 rfl (w1.heap.size + 1) 5 iu _ 1 1 Try.underlying29 hiu hzu0 hzu1 hzu2 rfl (by decide) (.slice none 0 0) 0 [] rfl (World.ownsRow_nil _ _ _ _) B n c (xs.map bv) rfl HL2.out (SB.out.grow ((HK1.out.alloc _).trans' K12.out)) bvs_one (by omega) (by omega) (by have := K12.out.size; simp at this; omega) ?_; intro v2 w3 ho2 hg2 _; simp only [Nat.zero_add, List.nil_append] at ho2; have K23 := Lib.hid (Keeps.of_grown (bs := []) hg2 (by simp [Value.ownBlock])); obtain ⟨A2, c2, hv2⟩ := own_slice ho2; rw [hv2] at ho2; rw [hv2]; have HO2 := Lib.hid ho2; clear ho2 hg2 hv2)
      | (at_builtin; refine wpList_append_opt rfl (.tmp 53) (.tmp 58) 30 rfl (w1.heap.size + 1) 88 iw _ 2 32 Try.underlying30 hiw hzw0 hzw1 hzw2 rfl (by decide) v1 r.W.length (wcells r.W) rfl (own_keep HO1.out (K23.out.alloc _) (by simp)) (some ⟨w3.heap.size, 0, none⟩) 1 1 [.int .i64 (off : Int), .slice A2 n c2] rfl rfl Src.of_new (by simp [Value.oneCell']) (by unfold maxLen; omega) (by omega) (by have h1 := K12.out.size; have h2 := K23.out.size; simp at h1 ⊢; omega) ?_; intro v3 w4 ho3 hg3 _; obtain ⟨A3, c3, hv3⟩ := own_slice ho3; rw [hv3] at ho3; rw [hv3]; have K34 := Lib.hid (Keeps.of_grown (bs := v1.ownBlock.toList) hg3 (fun x hx => .inl (by simpa using hx))); have HO3 := Lib.hid ho3; clear ho3 hg3 hv3; have hne : w1.heap.size ∉ v1.ownBlock.toList := (fun hm => by have := (HO1.out.lt _ (by simpa using hm)).1; omega); have hne2 : w.heap.size + 1 ∉ v1.ownBlock.toList := (fun hm => by have := (HO1.out.lt _ (by simpa using hm)).1; omega); have q4 := blk_keep (blk_keep (blk_keep (heap_alloc_new w1 _) K12.out (by simp)) (K23.out.alloc _) (by simp)) K34.out hne; have p4 := blk_keep (blk_keep (blk_keep (blk_keep HBY.out ((Keeps.refl [] w1).alloc _) (by simp)) K12.out (by simp)) (K23.out.alloc _) (by simp)) K34.out hne2; obtain ⟨⟨z0, z1, z2, z3, z4⟩, ⟨g0, g1, g2, g3, g4⟩⟩ := five_facts q4; obtain ⟨⟨y0, y1, y2, y3, y4⟩, ⟨f0, f1, f2, f3, f4⟩⟩ := five_facts p4; clear q4 p4))
    have hend := fun zz za zb zc zd ze => wrote_end HR.out HN.out hf hz1 HK1.out K12.out K23.out HO1.out HO2.out K34.out HO3.out (Keeps.six (w.heap.size + 1) w1.heap.size zz za zb zc zd ze)
    refine bodyPost_ret (v := .tuple #[.agg #[.slice r.AL r.L.length r.cL, .slice A3 (r.W.length + 1) c3, .int .i64 (lessOne r.armed), .int .i64 (r.lim : Int), .int .i64 ((r.done : Int) + 1)], .int .i64 0]) (by simp [results, Try.results29, go_sem, y0, y1, y2, y3, y4]) rfl ⟨A3, c3, .slice A2 n c2, by simp [Rf.wrote], (hend _ _ _ _ _ _).1, (hend (.bool true) (.bool true) (.bool true) (.bool true) (.bool true) (.bool true)).2.1, (hend _ _ _ _ _ _).2.2⟩
  · have a4 : (0 : Int) < n := by omega
    have a5 : ¬ (r.lim : Int) < (off : Int) + n := by omega
    clear hn hl
    go_enter Try.func29, Try.ntmps29
    go_wp2_with fail
    refine (ST _).out.mono ?_
    rintro e w1 ⟨rfl, hb1⟩
    obtain ⟨hbx, hby, hk1⟩ := two_new hb1
    obtain ⟨⟨x0, x1, x2, x3, x4⟩, _⟩ := five_facts hbx
    have hz0 : w.heap.size < w1.heap.size := lt_of_heap hbx
    have hz1 : w.heap.size + 1 < w1.heap.size := lt_of_heap hby
    have HK1 := Lib.hid hk1
    have HBY := Lib.hid hby
    clear hb1 hbx hby hk1
    go_wp2_with (first
      | (at_builtin; refine wpList_append_opt rfl (.const (.slice none 0 0)) (.tmp 52) 30 rfl (w1.heap.size + 1) 88 iw _ 2 32 Try.underlying30 hiw hzw0 hzw1 hzw2 rfl (by decide) (.slice none 0 0) 0 [] rfl (World.ownsRow_nil _ _ _ _) r.AW r.W.length r.cW (wcells r.W) rfl HL1.out (SW.out.grow (HK1.out.alloc _)) H1.out (by omega) (by omega) (by simp) ?_; intro v1 w2 ho1 hg1 _; simp only [Nat.zero_add, List.nil_append] at ho1; have K12 := Lib.hid (Keeps.of_grown (bs := []) hg1 (by simp [Value.ownBlock])); have HO1 := Lib.hid ho1; clear ho1 hg1)
      | (at_builtin; refine wpList_append_opt rfl (.const (.slice none 0 0)) (.tmp 55) 29 rfl (w1.heap.size + 1) 5 iu _ 1 1 Try.underlying29 hiu hzu0 hzu1 hzu2 rfl (by decide) (.slice none 0 0) 0 [] rfl (World.ownsRow_nil _ _ _ _) B n c (xs.map bv) rfl HL2.out (SB.out.grow ((HK1.out.alloc _).trans' K12.out)) bvs_one (by omega) (by omega) (by have := K12.out.size; simp at this; omega) ?_; intro v2 w3 ho2 hg2 _; simp only [Nat.zero_add, List.nil_append] at ho2; have K23 := Lib.hid (Keeps.of_grown (bs := []) hg2 (by simp [Value.ownBlock])); obtain ⟨A2, c2, hv2⟩ := own_slice ho2; rw [hv2] at ho2; rw [hv2]; have HO2 := Lib.hid ho2; clear ho2 hg2 hv2)
      | (at_builtin; refine wpList_append_opt rfl (.tmp 53) (.tmp 58) 30 rfl (w1.heap.size + 1) 88 iw _ 2 32 Try.underlying30 hiw hzw0 hzw1 hzw2 rfl (by decide) v1 r.W.length (wcells r.W) rfl (own_keep HO1.out (K23.out.alloc _) (by simp)) (some ⟨w3.heap.size, 0, none⟩) 1 1 [.int .i64 (off : Int), .slice A2 n c2] rfl rfl Src.of_new (by simp [Value.oneCell']) (by unfold maxLen; omega) (by omega) (by have h1 := K12.out.size; have h2 := K23.out.size; simp at h1 ⊢; omega) ?_; intro v3 w4 ho3 hg3 _; obtain ⟨A3, c3, hv3⟩ := own_slice ho3; rw [hv3] at ho3; rw [hv3]; have K34 := Lib.hid (Keeps.of_grown (bs := v1.ownBlock.toList) hg3 (fun x hx => .inl (by simpa using hx))); have HO3 := Lib.hid ho3; clear ho3 hg3 hv3; have hne : w1.heap.size ∉ v1.ownBlock.toList := (fun hm => by have := (HO1.out.lt _ (by simpa using hm)).1; omega); have hne2 : w.heap.size + 1 ∉ v1.ownBlock.toList := (fun hm => by have := (HO1.out.lt _ (by simpa using hm)).1; omega); have q4 := blk_keep (blk_keep (blk_keep (heap_alloc_new w1 _) K12.out (by simp)) (K23.out.alloc _) (by simp)) K34.out hne; have p4 := blk_keep (blk_keep (blk_keep (blk_keep HBY.out ((Keeps.refl [] w1).alloc _) (by simp)) K12.out (by simp)) (K23.out.alloc _) (by simp)) K34.out hne2; obtain ⟨⟨z0, z1, z2, z3, z4⟩, ⟨g0, g1, g2, g3, g4⟩⟩ := five_facts q4; obtain ⟨⟨y0, y1, y2, y3, y4⟩, ⟨f0, f1, f2, f3, f4⟩⟩ := five_facts p4; clear q4 p4))
    have hend := fun zz za zb zc zd ze => wrote_end HR.out HN.out hf hz1 HK1.out K12.out K23.out HO1.out HO2.out K34.out HO3.out (Keeps.six (w.heap.size + 1) w1.heap.size zz za zb zc zd ze)
    refine bodyPost_ret (v := .tuple #[.agg #[.slice r.AL r.L.length r.cL, .slice A3 (r.W.length + 1) c3, .int .i64 (lessOne r.armed), .int .i64 (r.lim : Int), .int .i64 ((r.done : Int) + 1)], .int .i64 0]) (by simp [results, Try.results29, go_sem, y0, y1, y2, y3, y4]) rfl ⟨A3, c3, .slice A2 n c2, by simp [Rf.wrote], (hend _ _ _ _ _ _).1, (hend (.bool true) (.bool true) (.bool true) (.bool true) (.bool true) (.bool true)).2.1, (hend _ _ _ _ _ _).2.2⟩

end Go.Proofs.Ytadpomclnhemoaa
