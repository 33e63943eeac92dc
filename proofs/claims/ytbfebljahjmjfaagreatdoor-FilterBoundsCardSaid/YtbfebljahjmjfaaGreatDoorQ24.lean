import Derived.Test.YtbfebljahjmjfaaGreatDoorQ23
/- ber: two values gone over in step: the iterator. -/
namespace Go.Proofs.YtbfebljahjmjfaaGreatDoor
open Go.RowKit Go.Shelf
set_option linter.unusedVariables false
set_option linter.unusedSimpArgs false
set_option maxRecDepth 100000
attribute [local go_sem] Oper.semAt_some

theorem pair_set {w : World} {g : Nat} {a b v0 v1 : Value} {t : TypeId} (h : w.heap[g]? = some (.cells #[a, b] t (0, 0))) :
  ((w.setCell ⟨g, 0, none⟩ v0).setCell ⟨g, 1, none⟩ v1).heap[g]? = some (.cells #[v0, v1] t (0, 0)) :=
 heap_setCell_same _ g 1 _ t v1 (heap_setCell_same w g 0 _ t v0 h)

theorem wpListIn_append_opt {F : Fence} {nn : Nat} {P : Program} {w : World} {ops : Array Oper} {rest : List Oper} {o : Oper} {a : Act} {Q : Exit → Act → World → Prop} (hgd : o.guard = none) (s x : Operand) (t : TypeId)
  (ho : o.op = .call { callee := .builtin .append, args := #[s, x], argTypes := #[t, t] })
  (base : Nat) (e : TypeId) (i : TypeInfo) (z : Value) (size bytes : Nat) (ht : P.underlying t = some (.slice e)) (hi : P.info? e = some i) (hz : i.zero = some z)
  (hsize : i.size = size) (hby : i.bytes = bytes) (hzs : z.cells.size = size) (hsz : 0 < size)
  (v : Value) (n : Nat) (xs : List Value) (hs : a.eval s = v) (hown : w.ownsRow base e size v n xs)
  (A : Option Addr) (m c : Nat) (news : List Value) (hx : a.eval x = .slice A m c) (hl : news.length = m * size) (hnews : Src w A m news) (h1 : ∀ u ∈ news, u.oneCell' = true)
  (h63 : n + m ≤ maxLen) (hbytes : (n + m) * bytes ≤ 140737488355328) (hbase : base ≤ w.heap.size)
  (h : ∀ v' w', w'.ownsRow base e size v' (n + m) (xs ++ news) → w.grownBy w' v.ownBlock → (v'.ownBlock = v.ownBlock ∨ v'.ownBlock = some w.heap.size) → wpListIn F nn P ops Q rest (a.put o.dst v') w') : wpListIn F nn P ops Q (o :: rest) a w := by
 refine wpListIn_plain hgd fun K hK' => ?_
 obtain ⟨v', w', hrun, r1, r2, r3⟩ := run_append_opt (P := P) (w := w) base t o.type e i z size bytes ht hi hz hsize hby hzs hsz v n xs hown A m c news hl hnews h1 h63 hbytes hbase
 unfold Oper.wpIn
 refine ⟨?_, ?_⟩
 ·simp [Oper.about, ho, resolve, Target.leads, Sem.run_pure]
 ·rw [Oper.semAt_plain F _ _ (by rw [ho]; intro c hc'; cases hc')]
  simp [execOp, ho, resolve, invoke, builtin, hs, hx, hrun, Result.andThen]
  exact hK' _ _ (h v' w' r1 r2 r3)

/-- What the rounds over a pair of rows find. -/
def InR (f : BV × BV → Bool) (res : Bool) (J : World → Prop) (V : World) (g5 m : Nat) (s : SR) (j : Nat) (v : Value) (wr : World) : Prop :=
 ∃ (S : List SR) (n : Nat) (g : Option Addr) (d : Nat), v = .slice g n d ∧ S.length = n ∧ nodesS S + nodesL (s.x.drop j) + 1 = m ∧ wr.ownsRow V.heap.size 204 2 v n (stackV S) ∧ (∀ x ∈ S, x.ok V) ∧ (allS f S && allL f (s.x.drop j) (s.y.drop j)) = res ∧ J wr ∧ Kept 0 V wr ∧ wr.heap[g5]? = some (.cells #[.slice s.A s.la s.ca, .slice s.B s.lb s.cb] 204 (0, 0)) ∧ (∀ b, v.ownBlock = some b → b ≠ g5)

set_option maxHeartbeats 2000000 in
theorem instep_is (f : BV × BV → Bool) (p2 p3 : Nat) (a b : BV) (ha hb : BH) (W0 : World) (h2 : ∀ q u, (BH.list ha)[q]? = some u → W0.cell? ⟨p2, 0 + q, none⟩ = some u) (h3 : ∀ q u, (BH.list hb)[q]? = some u → W0.cell? ⟨p3, 0 + q, none⟩ = some u) (hta : BerAt W0 a ha) (htb : BerAt W0 b hb) (hn : nodesB a ≤ 1000000000) (res : Bool) (hres : allB f a b = res) :
  Steps2 Tryz.prog 183 #[.pointer (some ⟨p2, 0, none⟩), .pointer (some ⟨p3, 0, none⟩)] InE f res W0 := by
 intro l J Jx Jp W hKW hJ hJx hJp hY hJW
 obtain ⟨iu, hiu, hzu0, hzu1, hzu2⟩ := info_parts bpair_info
 have hc0 : ∀ p u, W0.cell? p = some u → W.cell? p = some u := fun p u h => hKW.cell h
 obtain ⟨a0, a1, a2, a3, a4⟩ := five_at (fun q u hu => hc0 _ _ (h2 q u hu))
 obtain ⟨b0, b1, b2, b3, b4⟩ := five_at (fun q u hu => hc0 _ _ (h3 q u hu))
 rw [Nat.zero_add] at a1 a2 a3 a4 b1 b2 b3 b4
 have HTA := Lib.hid (BerAt.map hc0 a ha hta)
 have HTB := Lib.hid (BerAt.map hc0 b hb htb)
 have HY := Lib.hid hY
 have HJ := Lib.hid hJ
 have HN := Lib.hid hn
 have HJW := Lib.hid hJW
 have HRES := Lib.hid hres
 obtain ⟨ca, na, ka, Aa, laa, caa, Ba, lba, cba⟩ := ha
 obtain ⟨cb, nb, kb, Ab, lab, cab, Bb, lbb, cbb⟩ := hb
 clear h2 h3 hta htb hY hJ hn hc0 hKW hJW hres
 obtain ⟨W1, hW1⟩ : ∃ W1, W.alloc (.cells #[.int .u8 (ca : Int), .int .u8 (na : Int), .bool ka, .slice Aa laa caa, .slice Ba lba cba] 40) = W1 := ⟨_, rfl⟩
 have z1 : W1.heap.size = W.heap.size + 1 := by rw [← hW1]; simp
 have k1 : Keeps [] W W1 := by rw [← hW1]; exact (Keeps.refl [] W).alloc _
 have e0 := (k1.cell (lt_of_cell b0) (by simp)).trans b0
 have e1 := (k1.cell (lt_of_cell b1) (by simp)).trans b1
 have e2 := (k1.cell (lt_of_cell b2) (by simp)).trans b2
 have e3 := (k1.cell (lt_of_cell b3) (by simp)).trans b3
 have e4 := (k1.cell (lt_of_cell b4) (by simp)).trans b4
 obtain ⟨W2, hW2⟩ : ∃ W2, W1.alloc (.cells #[.int .u8 (cb : Int), .int .u8 (nb : Int), .bool kb, .slice Ab lab cab, .slice Bb lbb cbb] 40) = W2 := ⟨_, rfl⟩
 have z2 : W2.heap.size = W.heap.size + 2 := by rw [← hW2]; simp [z1]
 have k2 : Keeps [] W1 W2 := by rw [← hW2]; exact (Keeps.refl [] W1).alloc _
 obtain ⟨W3, hW3⟩ : ∃ W3, W2.alloc (.cells #[.slice (some ⟨W.heap.size, 0, none⟩) 1 1, .slice (some ⟨W1.heap.size, 0, none⟩) 1 1] 204) = W3 := ⟨_, rfl⟩
 have k3 : Keeps [] W2 W3 := by rw [← hW3]; exact (Keeps.refl [] W2).alloc _
 have r1 : W1.heap[W.heap.size]? = some (.cells #[.int .u8 (ca : Int), .int .u8 (na : Int), .bool ka, .slice Aa laa caa, .slice Ba lba cba] 40 (0, 0)) := by rw [← hW1]; exact heap_new8 W _
 have r2 : W2.heap[W1.heap.size]? = some (.cells #[.int .u8 (cb : Int), .int .u8 (nb : Int), .bool kb, .slice Ab lab cab, .slice Bb lbb cbb] 40 (0, 0)) := by rw [← hW2]; exact heap_new8 W1 _
 have r3 : W3.heap[W2.heap.size]? = some (.cells #[.slice (some ⟨W.heap.size, 0, none⟩) 1 1, .slice (some ⟨W1.heap.size, 0, none⟩) 1 1] 204 (0, 0)) := by rw [← hW3]; exact heap_new8 W2 _
 have HZ1 := Lib.hid z1
 have HZ2 := Lib.hid z2
 have HK1 := Lib.hid k1
 have HK2 := Lib.hid k2
 have HK3 := Lib.hid k3
 have HR1 := Lib.hid r1
 have HR2 := Lib.hid r2
 have HR3 := Lib.hid r3
 clear b0 b1 b2 b3 b4 z1 z2 k1 k2 k3 r1 r2 r3
 refine (callsIn_wide (n := 3)).1 ?_
 refine callsIn_of_wp Tryz.func183 rfl trivial ?_ rfl
 simp only [Tryz.ntmps183, List.size_toArray, List.length_cons, List.length_nil, Nat.reduceAdd, Nat.reduceSub, Array.replicate_succ, Array.replicate_zero, List.push_toArray, List.append_toArray, List.nil_append, List.cons_append]
 refine wpIn_wide.2 ?_
 go_wp2_with fail
 have HKW : Hid (Keeps [] W W3) := HK1.out.trans' (HK2.out.trans' HK3.out)
 have H0 : Hid (StepR f res J W2 (.slice (some ⟨W2.heap.size, 0, none⟩) 1 1) W3 (1 + nodesB a)) := by
  have hz1 := HZ1.out
  have hz2 := HZ2.out
  refine ⟨[⟨some ⟨W.heap.size, 0, none⟩, 1, 1, some ⟨W1.heap.size, 0, none⟩, 1, 1, [a], [b]⟩], _, _, rfl, by simp [nodesS, nodesL], by have := HN.out; omega, ⟨rfl, .inr ⟨W2.heap.size, 1, _, rfl, Nat.le_refl _, HR3.out, Nat.le_refl _, by unfold maxLen; omega, rfl, rfl⟩⟩, ?_, by simp [allS, allL, HRES.out], HJ.out _ _ HJW.out (HKW.out.below (Nat.le_refl _) (by simp)), Kept.of_keeps HK3.out⟩
  intro s hs
  rw [List.mem_singleton.1 hs]
  refine ⟨⟨rfl, Nat.le_refl _, by show 1 ≤ 9223372036854775807; omega, ⟨_, _, _, rfl, fun j u hu => ?_, BerAt.grow (HK1.out.trans' HK2.out) a _ HTA.out⟩, trivial⟩, ⟨rfl, Nat.le_refl _, by show 1 ≤ 9223372036854775807; omega, ⟨_, _, _, rfl, fun j u hu => ?_, BerAt.grow (HK1.out.trans' HK2.out) b _ HTB.out⟩, trivial⟩⟩
  ·have h9 := blk_keep HR1.out HK2.out (by simp)
   rw [cell_of_blk h9]
   simpa [BH.list] using hu
  ·rw [cell_of_blk HR2.out]
   simpa [BH.list] using hu
 have hwv : W.heap.size ≤ W2.heap.size := by have := HZ2.out; omega
 have HWV : Hid (Kept 0 W W2) := Kept.of_keeps (HK1.out.trans' HK2.out)
 clear hW1 hW2 hW3 HTA HTB HR1 HR2 HR3 a0 a1 a2 a3 a4 e0 e1 e2 e3 e4
 go_loopw [4] (fun v wr => ∃ m, Hid (StepR f res J W2 v wr m)) (fun v wr => leastOfb5 (StepR f res J W2 v wr))
 case atStart => exact ⟨_, H0⟩
 case round =>
  obtain ⟨m0, hm0⟩ := hrel
  have hst := least_isb5 ⟨m0, hm0.out⟩
  generalize hmm : leastOfb5 (StepR f res J W2 u4 wr) = m at *
  clear hm0
  obtain ⟨S, g, d, rfl, hns, hm1, hown, hok, hall, hJ1, hKW1⟩ := hst
  rcases List.eq_nil_or_concat S with rfl | ⟨S1, s, rfl⟩
  ·have HRT : Hid (res = true) := by rw [← hall]; rfl
   have HJ1 := Lib.hid hJ1
   clear hall hok hown hns hJ1 hKW1 hmm
   go_wp2_with fail
   go_end0
   exact .inl ⟨⟨_, rfl⟩, .inl ⟨HRT.out, HJ1.out⟩⟩
  ·rw [List.concat_eq_append] at hown hok hall hns hmm
   rw [List.concat_eq_append]
   have hsl : (S1 ++ [s]).length = S1.length + 1 := by simp
   rw [hsl] at hown hmm
   rw [hsl]
   rw [stackV_snoc] at hown
   rw [nodesS_snoc] at hns
   rw [allS_snoc] at hall
   have hsv := stackV_len S1
   have hnl := nodesS_len S1
   have hso := hok s (by simp)
   obtain ⟨k, rfl, hk1, hk2, hnd, hdm, p0, p1, hown1⟩ := own_popb5 hown hsv
   have hkz : W2.heap.size ≤ wr.heap.size := hKW1.size
   have HOK : Hid (∀ x ∈ S1, x.ok W2) := fun x hx => hok x (by simp [hx])
   have HSO := Lib.hid hso
   have HALL := Lib.hid hall
   have HNS := Lib.hid hns
   have HOW := Lib.hid hown1
   have HJ1 := Lib.hid hJ1
   have HKW1 := Lib.hid hKW1
   have HMM := Lib.hid hmm
   clear hok hso hall hown1 hown hJ1 hKW1 hsl hmm
   obtain ⟨sA, sla, sca, sB, slb, scb, sx, sy⟩ := s
   have hn1 : S1.length ≤ 1000000001 := by omega
   have HSV := Lib.hid hsv
   clear hsv hnl hns
   generalize hnn : S1.length = n1 at *
   have HNN := Lib.hid hnn
   clear hnn
   obtain ⟨X0, hX0⟩ : ∃ X0, wr.alloc (.cells #[.slice none 0 0, .slice none 0 0] 204) = X0 := ⟨_, rfl⟩
   have kx0 : Keeps [] wr X0 := by rw [← hX0]; exact (Keeps.refl [] wr).alloc _
   have rx0 : X0.heap[wr.heap.size]? = some (.cells #[.slice none 0 0, .slice none 0 0] 204 (0, 0)) := by rw [← hX0]; exact heap_new8 wr _
   have q0 := (kx0.cell (lt_of_cell p0) (by simp)).trans p0
   have q1 := (kx0.cell (lt_of_cell p1) (by simp)).trans p1
   have HLP := Lib.hid (lastp_is k 0 n1 d sA sB sla sca slb scb X0 hnd (by omega) (Nat.lt_of_lt_of_le hk2 kx0.size) q0 q1)
   have HX0 := Lib.hid kx0
   have HRX := Lib.hid rx0
   clear p0 p1 q0 q1 kx0 rx0
   go_wp2_with fail
   refine HLP.out.mono ?_
   rintro e w2 ⟨rfl, hk3⟩
   have hr2 := blk_keep HRX.out hk3 (by simp)
   have c0 := cell_of_blk hr2 0
   have c1 := cell_of_blk hr2 1
   have f0 := free_of_blk hr2 0
   have f1 := free_of_blk hr2 1
   simp only [List.getElem?_toArray, List.getElem?_cons_zero, List.getElem?_cons_succ] at c0 c1
   have HKX := Lib.hid hk3
   have HR2 := Lib.hid hr2
   clear hk3 hr2
   obtain ⟨W4, hW4⟩ : ∃ W4, (w2.setCell ⟨wr.heap.size, 0, none⟩ (.slice sA sla sca)).setCell ⟨wr.heap.size, 1, none⟩ (.slice sB slb scb) = W4 := ⟨_, rfl⟩
   have HR4 : Hid (W4.heap[wr.heap.size]? = some (.cells #[.slice sA sla sca, .slice sB slb scb] 204 (0, 0))) := by rw [← hW4]; exact pair_set HR2.out
   have HK4 : Hid (Keeps [] wr W4) := by
    rw [← hW4]
    exact (((HX0.out.trans' HKX.out).mono (by simp)).setCell (.inr (Nat.le_refl _)) _).setCell (.inr (Nat.le_refl _)) _
   obtain ⟨N, hN, hNa, hNb, hNc⟩ : ∃ N : Nat, min (sla : Int) (slb : Int) = (N : Int) ∧ N ≤ sla ∧ N ≤ slb ∧ (N = sla ∨ N = slb) := ⟨min sla slb, by omega, by omega, by omega, by omega⟩
   have hm3 : sla ≤ 9223372036854775807 := Nat.le_trans HSO.out.1.2.1 HSO.out.1.2.2.1
   have d0 := cell_of_blk HR4.out 0
   have d1 := cell_of_blk HR4.out 1
   simp only [List.getElem?_toArray, List.getElem?_cons_zero, List.getElem?_cons_succ] at d0 d1
   go_wp2_with fail
   try rw [hN]
   clear hN
   have HIN : Hid (InR f res J W2 wr.heap.size m ⟨sA, sla, sca, sB, slb, scb, sx, sy⟩ 0 (.slice (some ⟨k, 0, none⟩) n1 d) W4) := by
    refine ⟨S1, n1, _, _, rfl, HNN.out, by have := HNS.out; show _ + nodesL (sx.drop 0) + 1 = m; rw [List.drop_zero, ← this]; omega, own_kept HOW.out (Kept.of_keeps (n := 0) HK4.out), HOK.out, ?_, HJ.out _ _ HJ1.out (HK4.out.below (Nat.le_trans hwv hkz) (by simp)), HKW1.out.trans (Kept.of_keeps HK4.out), HR4.out, fun b hb => ?_⟩
    ·have h9 := HALL.out
     simpa using h9
    ·simp [Value.ownBlock] at hb
     omega
   clear hW4 c0 c1 f0 f1 d0 d1
   generalize hg5 : wr.heap.size = g5 at *
   obtain ⟨wo, hwo⟩ : ∃ wo : World, wo = wr := ⟨_, rfl⟩
   subst hwo
   go_loopw [4, 30] (fun v i wr => ∃ j : Nat, i = .int .i64 (j : Int) ∧ j ≤ N ∧ Hid (InR f res J W2 g5 m ⟨sA, sla, sca, sB, slb, scb, sx, sy⟩ j v wr)) (fun _ i _ => N - (intOf i).toNat)
   case atStart => exact ⟨0, rfl, Nat.zero_le _, HIN⟩
   case round =>
    obtain ⟨j, rfl, hj, HINR⟩ := hrel
    obtain ⟨S, n, g, d', rfl, hSn, hns, hown, hok, hall, hJ1, hKW1, hr5, hne⟩ := HINR.out
    clear HINR
    have hso := HSO.out
    by_cases hlt : j < N
    ·obtain ⟨⟨hxl, hlc, hcm, hxi⟩, ⟨hyl, hlc2, hcm2, hyi⟩⟩ := hso
     obtain ⟨x1, hx⟩ : ∃ x1, sx[j]? = some x1 := ⟨_, List.getElem?_eq_getElem (show j < sx.length by have := hxl; simp only at this; omega)⟩
     obtain ⟨y1, hy⟩ : ∃ y1, sy[j]? = some y1 := ⟨_, List.getElem?_eq_getElem (show j < sy.length by have := hyl; simp only at this; omega)⟩
     obtain ⟨b1, o1, hh1, rfl, hc1, hat1⟩ := hxi.at_ j _ hx
     obtain ⟨b2, o2, hh2, rfl, hc2, hat2⟩ := hyi.at_ j _ hy
     rw [Nat.zero_add] at hc1 hc2
     obtain ⟨g0, g1, g2, g3, g4⟩ := five_at (fun q u hu => hKW1.cell (hc1 q u hu))
     obtain ⟨i0, i1, i2, i3, i4⟩ := five_at (fun q u hu => hKW1.cell (hc2 q u hu))
     obtain ⟨c', n', k', A', la', ca', B', lb', cb'⟩ := hh1
     obtain ⟨c2, n2, k2, A2, la2, ca2, B2, lb2, cb2⟩ := hh2
     have d0 := cell_of_blk hr5 0
     have d1 := cell_of_blk hr5 1
     simp only [List.getElem?_toArray, List.getElem?_cons_zero, List.getElem?_cons_succ] at d0 d1
     have hi1 : (j : Int) < (sla : Int) := by omega
     have hi2 : (j : Int) < (slb : Int) := by omega
     have HH := Lib.hid (And.intro hxl (And.intro hlc (And.intro hcm (And.intro hxi (And.intro hyl (And.intro hlc2 (And.intro hcm2 hyi)))))))
     have HST := Lib.hid (And.intro hSn (And.intro hns (And.intro hown (And.intro hok (And.intro hall (And.intro hJ1 (And.intro hKW1 (And.intro hr5 hne))))))))
     have HAT1 := Lib.hid hat1
     have HAT2 := Lib.hid hat2
     have HX := Lib.hid hx
     have HY' := Lib.hid hy
     clear hxl hlc hcm hxi hyl hlc2 hcm2 hyi hSn hns hown hok hall hJ1 hKW1 hr5 hne hat1 hat2 hx hy hc1 hc2
     have ltb1 : b1 < wr.heap.size := lt_of_cell g0
     have ltb2 : b2 < wr.heap.size := lt_of_cell i0
     have lg5 : g5 < wr.heap.size := lt_of_cell d0
     have nb1 : b1 ≠ wr.heap.size := by omega
     have nb2 : b2 ≠ wr.heap.size := by omega
     have ng5 : g5 ≠ wr.heap.size := by omega
     have mb1 : b1 ≠ wr.heap.size + 1 := by omega
     have mb2 : b2 ≠ wr.heap.size + 1 := by omega
     have mg5 : g5 ≠ wr.heap.size + 1 := by omega
     have mixed : Tryz.prog.follows .mixedOrders = true := by kernel_rfl
     have late : Tryz.prog.follows .lateStores = true := by kernel_rfl
     go_wp2_with fail
     go_region_o
     ·have hra : (((wr.alloc (.cells #[.int .u8 (c' : Int), .int .u8 (n' : Int), .bool k', .slice A' la' ca', .slice B' lb' cb'] 40)).alloc (.cells #[.int .u8 (c2 : Int), .int .u8 (n2 : Int), .bool k2, .slice A2 la2 ca2, .slice B2 lb2 cb2] 40)).drew).heap[wr.heap.size]? = some (.cells #[.int .u8 (c' : Int), .int .u8 (n' : Int), .bool k', .slice A' la' ca', .slice B' lb' cb'] 40 (0, 0)) := (Below.heap_alloc (wr.alloc (.cells #[.int .u8 (c' : Int), .int .u8 (n' : Int), .bool k', .slice A' la' ca', .slice B' lb' cb'] 40)) (.cells #[.int .u8 (c2 : Int), .int .u8 (n2 : Int), .bool k2, .slice A2 la2 ca2, .slice B2 lb2 cb2] 40) wr.heap.size (by simp)).trans (heap_new8 wr _)
      have hrb : (((wr.alloc (.cells #[.int .u8 (c' : Int), .int .u8 (n' : Int), .bool k', .slice A' la' ca', .slice B' lb' cb'] 40)).alloc (.cells #[.int .u8 (c2 : Int), .int .u8 (n2 : Int), .bool k2, .slice A2 la2 ca2, .slice B2 lb2 cb2] 40)).drew).heap[wr.heap.size + 1]? = some (.cells #[.int .u8 (c2 : Int), .int .u8 (n2 : Int), .bool k2, .slice A2 la2 ca2, .slice B2 lb2 cb2] 40 (0, 0)) := by
       have h9 := heap_new8 (wr.alloc (.cells #[.int .u8 (c' : Int), .int .u8 (n' : Int), .bool k', .slice A' la' ca', .slice B' lb' cb'] 40)) (.cells #[.int .u8 (c2 : Int), .int .u8 (n2 : Int), .bool k2, .slice A2 la2 ca2, .slice B2 lb2 cb2] 40)
       rwa [World.size_alloc] at h9
      have hk5 : Keeps [] wr (((wr.alloc (.cells #[.int .u8 (c' : Int), .int .u8 (n' : Int), .bool k', .slice A' la' ca', .slice B' lb' cb'] 40)).alloc (.cells #[.int .u8 (c2 : Int), .int .u8 (n2 : Int), .bool k2, .slice A2 la2 ca2, .slice B2 lb2 cb2] 40)).drew) := (((Keeps.refl [] wr).alloc _).alloc _).drew
      generalize ((wr.alloc (.cells #[.int .u8 (c' : Int), .int .u8 (n' : Int), .bool k', .slice A' la' ca', .slice B' lb' cb'] 40)).alloc (.cells #[.int .u8 (c2 : Int), .int .u8 (n2 : Int), .bool k2, .slice A2 la2 ca2, .slice B2 lb2 cb2] 40)).drew = W5 at *
      obtain ⟨hSn, hns, hown, hok, hall, hJ1, hKW1, hr5, hne⟩ := HST.out
      have hz5 := hk5.size
      have hJ5 : J W5 := HJ.out _ _ hJ1 (hk5.below (by have := hKW1.size; omega) (by simp))
      have hKV5 : Kept 0 W2 W5 := hKW1.trans (Kept.of_keeps hk5)
      have hKW5 : Kept 0 W W5 := HWV.out.trans hKV5
      have hcell := fun p u (h : W2.cell? p = some u) => hKV5.cell h
      have ha1 := HAT1.out.map hcell
      have ha2 := HAT2.out.map hcell
      have HYY := HY.out (x1, y1) #[.agg #[.int .u8 (c' : Int), .int .u8 (n' : Int), .bool k', .slice A' la' ca', .slice B' lb' cb'], .agg #[.int .u8 (c2 : Int), .int .u8 (n2 : Int), .bool k2, .slice A2 la2 ca2, .slice B2 lb2 cb2]] W5 hJ5 hKW5 ⟨_, _, rfl, ha1, ha2⟩
      obtain ⟨fn, tmps, assign, body, hy, hR⟩ := HYY (3 - 1)
      obtain ⟨⟨y0, y1', y2, y3, y4⟩, _⟩ := five_facts hra
      obtain ⟨⟨w0', w1', w2', w3', w4'⟩, _⟩ := five_facts hrb
      have HRA := Lib.hid hra
      have HRB := Lib.hid hrb
      have HK5 := Lib.hid hk5
      have HJ5 := Lib.hid hJ5
      have HKW5 := Lib.hid hKW5
      clear hSn hns hown hok hall hJ1 hKW1 hr5 hne hra hrb hk5 hJ5 hKW5 hKV5 hcell ha1 ha2 HYY
      simp only [Exit.then]
      rename_i K9 hK9 K8 hK8
      refine hK9 _ _ ?_
      refine (wpIn_wide (n := 3)).1 ?_
      gi_wp2
      refine hR.mono ?_
      rintro e W6 (⟨rfl, hf, hk6, hJ6⟩ | ⟨rfl, hf, hj6⟩ | ⟨ch, rfl, hf, hj6⟩)
      ·obtain ⟨hSn, hns, hown, hok, hall, hJ1, hKW1, hr5, hne⟩ := HST.out
       have hnl := nodesS_len S
       have hra6 := hk6.block _ _ HRA.out (.inr rfl)
       have hrb6 := hk6.block _ _ HRB.out (.inr rfl)
       obtain ⟨⟨_, _, _, _, y9⟩, _⟩ := five_facts hra6
       obtain ⟨⟨_, _, _, _, w9'⟩, _⟩ := five_facts hrb6
       have hk56 : Kept 0 wr W6 := (Kept.of_keeps HK5.out).trans hk6
       have hz56 := hk56.size
       have hown6 := own_kept hown hk56
       have hn9 : n ≤ 1000000001 := by omega
       have HR9 := Lib.hid (heap_new8 W6 (.cells #[.slice B' lb' cb', .slice B2 lb2 cb2] 204))
       have HOWA := Lib.hid (own_keep hown6 ((Keeps.refl [] W6).alloc (.cells #[.slice B' lb' cb', .slice B2 lb2 cb2] 204)) (by simp))
       have HSRC : Hid (Src (W6.alloc (.cells #[.slice B' lb' cb', .slice B2 lb2 cb2] 204)) (some ⟨W6.heap.size, 0, none⟩) 1 [.slice B' lb' cb', .slice B2 lb2 cb2]) := by
        refine ⟨fun h => by simp at h, fun ad ha q u hu => ?_⟩
        injection ha with ha
        subst ha
        rw [add_at, cell_of_blk HR9.out]
        simpa using hu
       have HJ6 := Lib.hid hJ6
       have HF := Lib.hid hf
       have HKW6 := Lib.hid (hKW1.trans hk56)
       have HR56 := Lib.hid (hk6.block _ _ (blk_keep hr5 HK5.out (by simp)) (.inr rfl))
       have HST2 := Lib.hid (And.intro hSn (And.intro hns (And.intro hok (And.intro hall hne))))
       have HRN := Lib.hid hnl
       have hz6 : W2.heap.size ≤ W6.heap.size := by have := hKW1.size; omega
       have hz7 : g5 < W6.heap.size := by omega
       clear hSn hns hown hok hall hJ1 hKW1 hr5 hne hra6 hrb6 hk56 hown6 hk6 hJ6 hf hnl hz56 y0 y1' y2 y3 y4 w0' w1' w2' w3' w4'
       gi_wp2_with (gi_at_builtin; refine wpListIn_append_opt rfl (.tmp 48) (.tmp 54) 205 rfl W2.heap.size 204 iu _ 2 48 Tryz.underlying205 hiu hzu0 hzu1 hzu2 rfl (by decide) (.slice g n d') n (stackV S) rfl HOWA.out (some ⟨W6.heap.size, 0, none⟩) 1 1 [.slice B' lb' cb', .slice B2 lb2 cb2] rfl rfl HSRC.out (by simp [Value.oneCell']) (by unfold maxLen; omega) (by omega) (by simp; omega) ?_; intro v8 w8 ho8 hg8 hs8; obtain ⟨A8, c8, hv8⟩ := own_slice ho8; subst hv8; have HO8 := Lib.hid ho8; have HG8 := Lib.hid hg8; have HS8 := Lib.hid hs8; clear ho8 hg8 hs8)
       have HSN : Hid (∃ S' : List SR, S'.length = n + 1 ∧ stackV S ++ [.slice B' lb' cb', .slice B2 lb2 cb2] = stackV S' ∧ nodesS S' + nodesL (sx.drop (j + 1)) + 1 = m ∧ (∀ x ∈ S', x.ok W2) ∧ (allS f S' && allL f (sx.drop (j + 1)) (sy.drop (j + 1))) = res) := by
        obtain ⟨hSn, hns, hok, hall, hne⟩ := HST2.out
        refine ⟨S ++ [⟨B', lb', cb', B2, lb2, cb2, x1.l, y1.l⟩], by simp [hSn], by rw [stackV_snoc], ?_, fun q hq => ?_, ?_⟩
        ·rw [nodesS_snoc, ← hns]
         show nodesS S + (1 + nodesL x1.l) + nodesL (sx.drop (j + 1)) + 1 = nodesS S + nodesL (sx.drop j) + 1
         rw [nodesL_at HX.out, nodesB_mk]
         omega
        ·rcases List.mem_append.1 hq with hq | hq
         ·exact hok q hq
         ·rw [List.mem_singleton.1 hq]
          exact ⟨HAT1.out.items, HAT2.out.items⟩
        ·rw [allS_snoc, ← hall]
         show (_ && allL f x1.l y1.l && _) = (allS f S && allL f (sx.drop j) (sy.drop j))
         rw [allL_at f HX.out HY'.out, allB_mk f x1 y1, HF.out]
         simp [Bool.and_assoc]
       have HNEW : Hid (InR f res J W2 g5 m ⟨some ⟨b1, o1, none⟩, sla, sca, some ⟨b2, o2, none⟩, slb, scb, sx, sy⟩ (j + 1) (.slice A8 (n + 1) c8) w8) := by
        obtain ⟨S', e1, e2, e3, e4, e5⟩ := HSN.out
        obtain ⟨hSn, hns, hok, hall, hne⟩ := HST2.out
        have hka := (Keeps.refl [] W6).alloc (.cells #[.slice B' lb' cb', .slice B2 lb2 cb2] 204)
        have hkg : Keeps (Value.ownBlock (.slice g n d')).toList _ w8 := Keeps.of_grown HG8.out (fun x hx => .inl (by rw [hx]; simp))
        have hbs : ∀ x ∈ (Value.ownBlock (.slice g n d')).toList, W2.heap.size ≤ x := fun x hx => by
         rcases hv : Value.ownBlock (.slice g n d') with _ | y
         ·rw [hv] at hx; simp at hx
         ·rw [hv] at hx; simp at hx; subst hx; exact (HOWA.out.lt x hv).1
        refine ⟨S', n + 1, A8, c8, rfl, e1, e3, by rw [← e2]; exact HO8.out, e4, e5, HJ.out _ _ (HJ.out _ _ HJ6.out (hka.below (Nat.le_trans hwv hz6) (by simp))) (hkg.below (by simp; omega) (fun x hx => Nat.le_trans hwv (hbs x hx))), (HKW6.out.trans (Kept.of_keeps hka)).own hkg hbs, blk_keep (blk_keep HR56.out hka (by simp)) hkg (fun hm => ?_), fun b hb => ?_⟩
        ·rcases hv : Value.ownBlock (.slice g n d') with _ | y
         ·rw [hv] at hm; simp at hm
         ·rw [hv] at hm; simp at hm; exact hne y hv hm.symm
        ·rcases HS8.out with h9 | h9
         ·exact hne b (by rw [← h9]; exact hb)
         ·rw [h9] at hb
          simp at hb
          omega
       clear HO8 HG8 HS8 HSN HST2 HR56 HKW6 HJ6 HF HSRC HOWA HR9
       go_wp2_with fail
       go_roundw
       case rel => exact ⟨j + 1, by go_num, by omega, HNEW⟩
       case measure => simp [intOf]; omega
      ·have HRF : Hid (res = false) := by
        obtain ⟨hSn, hns, hown, hok, hall, hJ1, hKW1, hr5, hne⟩ := HST.out
        show res = false
        rw [← hall]
        show (allS f S && allL f (sx.drop j) (sy.drop j)) = false
        rw [allL_at f HX.out HY'.out, allB_mk, hf]
        simp
       gi_wp2
       refine bodyPost_ret (results_none rfl _ _ _) rfl ?_
       exact .inl ⟨⟨_, rfl⟩, .inr ⟨HRF.out, hj6⟩⟩
      ·have HRF : Hid (res = false) := by
        obtain ⟨hSn, hns, hown, hok, hall, hJ1, hKW1, hr5, hne⟩ := HST.out
        show res = false
        rw [← hall]
        show (allS f S && allL f (sx.drop j) (sy.drop j)) = false
        rw [allL_at f HX.out HY'.out, allB_mk, hf]
        simp
       gi_wp2
       exact ⟨rfl, .inr ⟨ch, rfl, HRF.out, hj6⟩⟩
     ·have hra : (((wr.alloc (.cells #[.int .u8 (c2 : Int), .int .u8 (n2 : Int), .bool k2, .slice A2 la2 ca2, .slice B2 lb2 cb2] 40)).alloc (.cells #[.int .u8 (c' : Int), .int .u8 (n' : Int), .bool k', .slice A' la' ca', .slice B' lb' cb'] 40)).drew).heap[wr.heap.size]? = some (.cells #[.int .u8 (c2 : Int), .int .u8 (n2 : Int), .bool k2, .slice A2 la2 ca2, .slice B2 lb2 cb2] 40 (0, 0)) := (Below.heap_alloc (wr.alloc (.cells #[.int .u8 (c2 : Int), .int .u8 (n2 : Int), .bool k2, .slice A2 la2 ca2, .slice B2 lb2 cb2] 40)) (.cells #[.int .u8 (c' : Int), .int .u8 (n' : Int), .bool k', .slice A' la' ca', .slice B' lb' cb'] 40) wr.heap.size (by simp)).trans (heap_new8 wr _)
      have hrb : (((wr.alloc (.cells #[.int .u8 (c2 : Int), .int .u8 (n2 : Int), .bool k2, .slice A2 la2 ca2, .slice B2 lb2 cb2] 40)).alloc (.cells #[.int .u8 (c' : Int), .int .u8 (n' : Int), .bool k', .slice A' la' ca', .slice B' lb' cb'] 40)).drew).heap[wr.heap.size + 1]? = some (.cells #[.int .u8 (c' : Int), .int .u8 (n' : Int), .bool k', .slice A' la' ca', .slice B' lb' cb'] 40 (0, 0)) := by
       have h9 := heap_new8 (wr.alloc (.cells #[.int .u8 (c2 : Int), .int .u8 (n2 : Int), .bool k2, .slice A2 la2 ca2, .slice B2 lb2 cb2] 40)) (.cells #[.int .u8 (c' : Int), .int .u8 (n' : Int), .bool k', .slice A' la' ca', .slice B' lb' cb'] 40)
       rwa [World.size_alloc] at h9
      have hk5 : Keeps [] wr (((wr.alloc (.cells #[.int .u8 (c2 : Int), .int .u8 (n2 : Int), .bool k2, .slice A2 la2 ca2, .slice B2 lb2 cb2] 40)).alloc (.cells #[.int .u8 (c' : Int), .int .u8 (n' : Int), .bool k', .slice A' la' ca', .slice B' lb' cb'] 40)).drew) := (((Keeps.refl [] wr).alloc _).alloc _).drew
      generalize ((wr.alloc (.cells #[.int .u8 (c2 : Int), .int .u8 (n2 : Int), .bool k2, .slice A2 la2 ca2, .slice B2 lb2 cb2] 40)).alloc (.cells #[.int .u8 (c' : Int), .int .u8 (n' : Int), .bool k', .slice A' la' ca', .slice B' lb' cb'] 40)).drew = W5 at *
      obtain ⟨hSn, hns, hown, hok, hall, hJ1, hKW1, hr5, hne⟩ := HST.out
      have hz5 := hk5.size
      have hJ5 : J W5 := HJ.out _ _ hJ1 (hk5.below (by have := hKW1.size; omega) (by simp))
      have hKV5 : Kept 0 W2 W5 := hKW1.trans (Kept.of_keeps hk5)
      have hKW5 : Kept 0 W W5 := HWV.out.trans hKV5
      have hcell := fun p u (h : W2.cell? p = some u) => hKV5.cell h
      have ha1 := HAT1.out.map hcell
      have ha2 := HAT2.out.map hcell
      have HYY := HY.out (x1, y1) #[.agg #[.int .u8 (c' : Int), .int .u8 (n' : Int), .bool k', .slice A' la' ca', .slice B' lb' cb'], .agg #[.int .u8 (c2 : Int), .int .u8 (n2 : Int), .bool k2, .slice A2 la2 ca2, .slice B2 lb2 cb2]] W5 hJ5 hKW5 ⟨_, _, rfl, ha1, ha2⟩
      obtain ⟨fn, tmps, assign, body, hy, hR⟩ := HYY (3 - 1)
      obtain ⟨⟨y0, y1', y2, y3, y4⟩, _⟩ := five_facts hrb
      obtain ⟨⟨w0', w1', w2', w3', w4'⟩, _⟩ := five_facts hra
      have HRA := Lib.hid hra
      have HRB := Lib.hid hrb
      have HK5 := Lib.hid hk5
      have HJ5 := Lib.hid hJ5
      have HKW5 := Lib.hid hKW5
      clear hSn hns hown hok hall hJ1 hKW1 hr5 hne hra hrb hk5 hJ5 hKW5 hKV5 hcell ha1 ha2 HYY
      simp only [Exit.then]
      rename_i K9 hK9 K8 hK8
      refine hK9 _ _ ?_
      refine (wpIn_wide (n := 3)).1 ?_
      gi_wp2
      refine hR.mono ?_
      rintro e W6 (⟨rfl, hf, hk6, hJ6⟩ | ⟨rfl, hf, hj6⟩ | ⟨ch, rfl, hf, hj6⟩)
      ·obtain ⟨hSn, hns, hown, hok, hall, hJ1, hKW1, hr5, hne⟩ := HST.out
       have hnl := nodesS_len S
       have hra6 := hk6.block _ _ HRA.out (.inr rfl)
       have hrb6 := hk6.block _ _ HRB.out (.inr rfl)
       obtain ⟨⟨_, _, _, _, y9⟩, _⟩ := five_facts hrb6
       obtain ⟨⟨_, _, _, _, w9'⟩, _⟩ := five_facts hra6
       have hk56 : Kept 0 wr W6 := (Kept.of_keeps HK5.out).trans hk6
       have hz56 := hk56.size
       have hown6 := own_kept hown hk56
       have hn9 : n ≤ 1000000001 := by omega
       have HR9 := Lib.hid (heap_new8 W6 (.cells #[.slice B' lb' cb', .slice B2 lb2 cb2] 204))
       have HOWA := Lib.hid (own_keep hown6 ((Keeps.refl [] W6).alloc (.cells #[.slice B' lb' cb', .slice B2 lb2 cb2] 204)) (by simp))
       have HSRC : Hid (Src (W6.alloc (.cells #[.slice B' lb' cb', .slice B2 lb2 cb2] 204)) (some ⟨W6.heap.size, 0, none⟩) 1 [.slice B' lb' cb', .slice B2 lb2 cb2]) := by
        refine ⟨fun h => by simp at h, fun ad ha q u hu => ?_⟩
        injection ha with ha
        subst ha
        rw [add_at, cell_of_blk HR9.out]
        simpa using hu
       have HJ6 := Lib.hid hJ6
       have HF := Lib.hid hf
       have HKW6 := Lib.hid (hKW1.trans hk56)
       have HR56 := Lib.hid (hk6.block _ _ (blk_keep hr5 HK5.out (by simp)) (.inr rfl))
       have HST2 := Lib.hid (And.intro hSn (And.intro hns (And.intro hok (And.intro hall hne))))
       have HRN := Lib.hid hnl
       have hz6 : W2.heap.size ≤ W6.heap.size := by have := hKW1.size; omega
       have hz7 : g5 < W6.heap.size := by omega
       clear hSn hns hown hok hall hJ1 hKW1 hr5 hne hra6 hrb6 hk56 hown6 hk6 hJ6 hf hnl hz56 y0 y1' y2 y3 y4 w0' w1' w2' w3' w4'
       gi_wp2_with (gi_at_builtin; refine wpListIn_append_opt rfl (.tmp 48) (.tmp 54) 205 rfl W2.heap.size 204 iu _ 2 48 Tryz.underlying205 hiu hzu0 hzu1 hzu2 rfl (by decide) (.slice g n d') n (stackV S) rfl HOWA.out (some ⟨W6.heap.size, 0, none⟩) 1 1 [.slice B' lb' cb', .slice B2 lb2 cb2] rfl rfl HSRC.out (by simp [Value.oneCell']) (by unfold maxLen; omega) (by omega) (by simp; omega) ?_; intro v8 w8 ho8 hg8 hs8; obtain ⟨A8, c8, hv8⟩ := own_slice ho8; subst hv8; have HO8 := Lib.hid ho8; have HG8 := Lib.hid hg8; have HS8 := Lib.hid hs8; clear ho8 hg8 hs8)
       have HSN : Hid (∃ S' : List SR, S'.length = n + 1 ∧ stackV S ++ [.slice B' lb' cb', .slice B2 lb2 cb2] = stackV S' ∧ nodesS S' + nodesL (sx.drop (j + 1)) + 1 = m ∧ (∀ x ∈ S', x.ok W2) ∧ (allS f S' && allL f (sx.drop (j + 1)) (sy.drop (j + 1))) = res) := by
        obtain ⟨hSn, hns, hok, hall, hne⟩ := HST2.out
        refine ⟨S ++ [⟨B', lb', cb', B2, lb2, cb2, x1.l, y1.l⟩], by simp [hSn], by rw [stackV_snoc], ?_, fun q hq => ?_, ?_⟩
        ·rw [nodesS_snoc, ← hns]
         show nodesS S + (1 + nodesL x1.l) + nodesL (sx.drop (j + 1)) + 1 = nodesS S + nodesL (sx.drop j) + 1
         rw [nodesL_at HX.out, nodesB_mk]
         omega
        ·rcases List.mem_append.1 hq with hq | hq
         ·exact hok q hq
         ·rw [List.mem_singleton.1 hq]
          exact ⟨HAT1.out.items, HAT2.out.items⟩
        ·rw [allS_snoc, ← hall]
         show (_ && allL f x1.l y1.l && _) = (allS f S && allL f (sx.drop j) (sy.drop j))
         rw [allL_at f HX.out HY'.out, allB_mk f x1 y1, HF.out]
         simp [Bool.and_assoc]
       have HNEW : Hid (InR f res J W2 g5 m ⟨some ⟨b1, o1, none⟩, sla, sca, some ⟨b2, o2, none⟩, slb, scb, sx, sy⟩ (j + 1) (.slice A8 (n + 1) c8) w8) := by
        obtain ⟨S', e1, e2, e3, e4, e5⟩ := HSN.out
        obtain ⟨hSn, hns, hok, hall, hne⟩ := HST2.out
        have hka := (Keeps.refl [] W6).alloc (.cells #[.slice B' lb' cb', .slice B2 lb2 cb2] 204)
        have hkg : Keeps (Value.ownBlock (.slice g n d')).toList _ w8 := Keeps.of_grown HG8.out (fun x hx => .inl (by rw [hx]; simp))
        have hbs : ∀ x ∈ (Value.ownBlock (.slice g n d')).toList, W2.heap.size ≤ x := fun x hx => by
         rcases hv : Value.ownBlock (.slice g n d') with _ | y
         ·rw [hv] at hx; simp at hx
         ·rw [hv] at hx; simp at hx; subst hx; exact (HOWA.out.lt x hv).1
        refine ⟨S', n + 1, A8, c8, rfl, e1, e3, by rw [← e2]; exact HO8.out, e4, e5, HJ.out _ _ (HJ.out _ _ HJ6.out (hka.below (Nat.le_trans hwv hz6) (by simp))) (hkg.below (by simp; omega) (fun x hx => Nat.le_trans hwv (hbs x hx))), (HKW6.out.trans (Kept.of_keeps hka)).own hkg hbs, blk_keep (blk_keep HR56.out hka (by simp)) hkg (fun hm => ?_), fun b hb => ?_⟩
        ·rcases hv : Value.ownBlock (.slice g n d') with _ | y
         ·rw [hv] at hm; simp at hm
         ·rw [hv] at hm; simp at hm; exact hne y hv hm.symm
        ·rcases HS8.out with h9 | h9
         ·exact hne b (by rw [← h9]; exact hb)
         ·rw [h9] at hb
          simp at hb
          omega
       clear HO8 HG8 HS8 HSN HST2 HR56 HKW6 HJ6 HF HSRC HOWA HR9
       go_wp2_with fail
       go_roundw
       case rel => exact ⟨j + 1, by go_num, by omega, HNEW⟩
       case measure => simp [intOf]; omega
      ·have HRF : Hid (res = false) := by
        obtain ⟨hSn, hns, hown, hok, hall, hJ1, hKW1, hr5, hne⟩ := HST.out
        show res = false
        rw [← hall]
        show (allS f S && allL f (sx.drop j) (sy.drop j)) = false
        rw [allL_at f HX.out HY'.out, allB_mk, hf]
        simp
       gi_wp2
       refine bodyPost_ret (results_none rfl _ _ _) rfl ?_
       exact .inl ⟨⟨_, rfl⟩, .inr ⟨HRF.out, hj6⟩⟩
      ·have HRF : Hid (res = false) := by
        obtain ⟨hSn, hns, hown, hok, hall, hJ1, hKW1, hr5, hne⟩ := HST.out
        show res = false
        rw [← hall]
        show (allS f S && allL f (sx.drop j) (sy.drop j)) = false
        rw [allL_at f HX.out HY'.out, allB_mk, hf]
        simp
       gi_wp2
       exact ⟨rfl, .inr ⟨ch, rfl, HRF.out, hj6⟩⟩
    ·obtain rfl : j = N := by omega
     have HE : Hid (∃ m2, m2 < m ∧ StepR f res J W2 (.slice g n d') wr m2) := by
      refine ⟨nodesS S, by omega, S, g, d', by rw [hSn], rfl, by omega, by rw [hSn]; exact hown, hok, ?_, hJ1, hKW1⟩
      have hz : allL f (sx.drop j) (sy.drop j) = true := by
       rcases hNc with h9 | h9
       ·rw [List.drop_of_length_le (by have := HSO.out.1.1; simp only at this; omega)]
        simp [allL]
       ·rw [List.drop_of_length_le (l := sy) (by have := HSO.out.2.1; simp only at this; omega)]
        exact allL_nil_r _ _
      rw [← hall]
      show _ = (_ && allL f (sx.drop j) (sy.drop j))
      rw [hz, Bool.and_true]
     clear hSn hns hown hok hall hJ1 hKW1 hr5 hne hso
     obtain ⟨m2, hm2, hst2⟩ := HE.out
     have HST := Lib.hid hst2
     have hle := least_leb5 hst2
     clear hst2
     go_wp2_with fail
     go_roundw
     case rel => exact ⟨m2, HST⟩
     case measure => rw [HMM.out]; exact Nat.lt_of_le_of_lt hle hm2

end Go.Proofs.YtbfebljahjmjfaaGreatDoor
