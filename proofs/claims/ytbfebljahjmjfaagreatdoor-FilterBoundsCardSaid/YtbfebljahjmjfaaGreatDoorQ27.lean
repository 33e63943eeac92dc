import Derived.Test.YtbfebljahjmjfaaGreatDoorQ26
import Derived.Test.YtbfebljahjmjfaaGreatDoorQ22
import Derived.Deep.CutBlock
import Derived.Deep.DeepCutAuto
import Derived.Deep.RegionHeld3
import Derived.StillTactics
/- ber: the program's Same; a value with another tag, in memory of its own (picked from T6, T9, T10, T21, without what they import). -/
namespace Go.Proofs.YtbfebljahjmjfaaGreatDoor
open Go.RowKit Go.Shelf
set_option linter.unusedVariables false
set_option linter.unusedSimpArgs false
set_option maxRecDepth 100000
attribute [local go_sem] Oper.semAt_some

theorem two_boxes (w : World) (o1 o2 : Obj) : ((w.alloc o1).alloc o2).heap[w.heap.size]? = some o1 ∧ ((w.alloc o1).alloc o2).heap[w.heap.size + 1]? = some o2 := by
 refine ⟨blk_keep (heap_new8 w o1) ((Keeps.refl [] _).alloc o2) (by simp), ?_⟩
 have h := heap_new8 (w.alloc o1) o2
 rwa [show (w.alloc o1).heap.size = w.heap.size + 1 by show (w.heap.push o1).size = _; simp] at h
def likeB : BV × BV → Bool
 | (.mk c n k b l, .mk c' n' k' b' l') => c == c' && (n == n' && (k == k' && (b == b' && l.length == l'.length)))
theorem allL_like : ∀ (l l' : List BV), (∀ t ∈ l, ∀ y, allB likeB t y = sameB t y) → allL likeB l l' = sameL l l'
 | [], l', _ => by simp [allL, sameL]
 | x :: r, [], _ => by simp [allL, sameL]
 | x :: r, y :: s, h => by
  simp only [allL, sameL]
  rw [h x (by simp), allL_like r s (fun t ht => h t (by simp [ht]))]
theorem all_like (x y : BV) : allB likeB x y = sameB x y := by
 induction x using BV.ind generalizing y with
 | h c n k b l ih =>
  obtain ⟨c', n', k', b', l'⟩ := y
  rw [allB_mk]
  show (likeB _ && allL likeB l l') = _
  rw [allL_like l l' ih]
  rfl
set_option maxHeartbeats 2000000 in
theorem alike_is (x y : BV) (h h' : BH) (w : World) (hx : BerAt w x h) (hy : BerAt w y h') : Calls Tryz.prog 115 #[h.val, h'.val] w fun e w' => e = .returned (.bool (likeB (x, y))) ∧ Keeps [] w w' := by
 obtain ⟨c, n, k, b, l⟩ := x
 obtain ⟨c', n', k', b', l'⟩ := y
 obtain ⟨rfl, rfl, rfl, h4, h5, h6, h7, h8, h9, h10, h11⟩ := hx
 obtain ⟨rfl, rfl, rfl, i4, i5, i6, i7, i8, i9, i10, i11⟩ := hy
 obtain ⟨c, n, k, A, la, ca, B, lb, cb⟩ := h
 obtain ⟨c', n', k', A', la', ca', B', lb', cb'⟩ := h'
 have hl : l.length = lb := h8
 have hl' : l'.length = lb' := i8
 have HF : Hid (likeB (.mk c n k b l, .mk c' n' k' b' l') = (decide ((c : Int) = (c' : Int)) && (decide ((n : Int) = (n' : Int)) && (decide (k = k') && ((b == b') && decide ((lb : Int) = (lb' : Int))))))) := by
  show _ = _
  show (c == c' && (n == n' && (k == k' && (b == b' && l.length == l'.length)))) = _
  rw [hl, hl']
  have e1 : ∀ p q : Nat, (p == q) = decide ((p : Int) = (q : Int)) := fun p q => by rw [Bool.eq_iff_iff]; simp; omega
  rw [e1, e1, e1]
  congr 3
  all_goals (cases k <;> cases k' <;> rfl)
 have HK : Hid (∀ o1 o2, Keeps [] w ((w.alloc o1).alloc o2)) := fun o1 o2 => ((Keeps.refl [] w).alloc o1).alloc o2
 have HEQ : Hid (∀ o1 o2, Calls Tryz.prog 185 #[.slice A la ca, .slice A' la' ca'] ((w.alloc o1).alloc o2) fun e w' => e = .returned (.bool (b == b')) ∧ (w.alloc o1).alloc o2 = w') := fun o1 o2 => equal_any _ _ b b' _ (h7.grow (HK.out o1 o2)) (i7.grow (HK.out o1 o2))
 clear h4 h5 h6 h7 h8 h9 h10 h11 i4 i5 i6 i7 i8 i9 i10 i11 hl hl'
 unfold BH.val
 rw [HF.out]
 by_cases h1 : (c : Int) = (c' : Int)
 ·by_cases h2 : (n : Int) = (n' : Int)
  ·by_cases h3 : k = k'
   ·subst h3
    rw [decide_eq_true h1, decide_eq_true h2, decide_eq_true rfl, Bool.true_and, Bool.true_and, Bool.true_and]
    obtain ⟨q, hq⟩ : ∃ q, (b == b') = q := ⟨_, rfl⟩
    rw [hq] at HEQ ⊢
    clear hq HF
    go_enter Tryz.func115, Tryz.ntmps115
    go_wp2_with fail
    refine (HEQ.out _ _).mono ?_
    rintro e w' ⟨rfl, rfl⟩
    cases q
    ·go_wp2_with fail
     go_ret
     exact ⟨rfl, HK.out _ _⟩
    ·go_wp2_with fail
     go_ret
     exact ⟨by simp; rw [Bool.eq_iff_iff, beq_iff_eq, decide_eq_true_eq], HK.out _ _⟩
   ·rw [decide_eq_false h3, Bool.false_and, Bool.and_false, Bool.and_false]
    clear HF HEQ
    go_enter Tryz.func115, Tryz.ntmps115
    go_wp2_with fail
    go_ret
    exact ⟨rfl, HK.out _ _⟩
  ·rw [decide_eq_false h2, Bool.false_and, Bool.and_false]
   clear HF HEQ
   go_enter Tryz.func115, Tryz.ntmps115
   go_wp2_with fail
   go_ret
   exact ⟨rfl, HK.out _ _⟩
 ·rw [decide_eq_false h1, Bool.false_and]
  clear HF HEQ
  go_enter Tryz.func115, Tryz.ntmps115
  go_wp2_with fail
  go_ret
  exact ⟨rfl, HK.out _ _⟩
theorem results_cell1b5 {P : Program} {fn : Func} {p : Tmp} {t1 : TypeId} (h : fn.results = #[.cell p t1]) (tmps : Array Value) (w : World) {a : Nat} {u : Value}
  (ha : tmps.getD p undef = .pointer (some ⟨a, 0, none⟩)) (h1 : ∀ w, w.cell? ⟨a, 0, none⟩ = some u → (loadVar t1 ⟨a, 0, none⟩).run P w = .ok u w) (ca : w.cell? ⟨a, 0, none⟩ = some u) : (results fn tmps).run P w = .ok u w := by
 have ha' : tmps[p]?.getD undef = .pointer (some ⟨a, 0, none⟩) := by simpa using ha
 simp [results, h, ha', asAddr, h1 w ca]
theorem load_var {t : TypeId} {g : Nat} {v : Value} (hagg : ∀ w, (isAgg t).run Tryz.prog w = .ok false w) (w : World) (hc : w.cell? ⟨g, 0, none⟩ = some v) : (loadVar t ⟨g, 0, none⟩).run Tryz.prog w = .ok v w := by
 simp [loadVar, Sem.run_bind, hagg, hc, go_sem]
theorem val_inj {hx hx' : BH} (h3 : BH.val hx = BH.val hx') : hx = hx' := by
 obtain ⟨_, _, _, _, _, _, _, _, _⟩ := hx
 obtain ⟨_, _, _, _, _, _, _, _, _⟩ := hx'
 simp only [BH.val] at h3
 simp at h3
 obtain ⟨e1, e2, e3, ⟨e4, e5, e6⟩, e7, e8, e9⟩ := h3
 have e1 := Int.ofNat_inj.1 e1
 have e2 := Int.ofNat_inj.1 e2
 rw [e1, e2, e3, e4, e5, e6, e7, e8, e9]
def BH.blk (h : BH) : Obj := .cells #[.int .u8 (h.c : Int), .int .u8 (h.n : Int), .bool h.k, .slice h.A h.la h.ca, .slice h.B h.lb h.cb] 40 (0, 0)
set_option maxHeartbeats 1000000 in
theorem bsame_is (t t' : BV) (h h' : BH) (w : World) (ht : BerAt w t h) (ht' : BerAt w t' h') (hn : nodesB t ≤ 1000000000) :
  Calls Tryz.prog 54 #[h.val, h'.val] w fun e w' => e = .returned (.bool (sameB t t')) ∧ Keeps [] w w' := by
 have HT := Lib.hid ht
 have HT' := Lib.hid ht'
 obtain ⟨c, n, k, A, la, ca, B, lb, cb⟩ := h
 obtain ⟨c', n', k', A', la', ca', B', lb', cb'⟩ := h'
 clear ht ht'
 unfold BH.val
 refine (callsIn_wide (n := 3)).1 ?_
 refine callsIn_of_wpOf (g := 54) Tryz.func54 rfl trivial ?_
 simp only [Tryz.ntmps54, List.size_toArray, List.length_cons, List.length_nil, Nat.reduceAdd, Nat.reduceSub, Array.replicate_succ, Array.replicate_zero, List.push_toArray, List.append_toArray, List.nil_append, List.cons_append]
 obtain ⟨o1, ho1⟩ : ∃ o1 : Obj, Obj.cells #[.int .u8 (c : Int), .int .u8 (n : Int), .bool k, .slice A la ca, .slice B lb cb] 40 (0, 0) = o1 := ⟨_, rfl⟩
 obtain ⟨o2, ho2⟩ : ∃ o2 : Obj, Obj.cells #[.int .u8 (c' : Int), .int .u8 (n' : Int), .bool k', .slice A' la' ca', .slice B' lb' cb'] 40 (0, 0) = o2 := ⟨_, rfl⟩
 have hb := two_boxes w o1 o2
 have hz2 : ((w.alloc o1).alloc o2).heap.size = w.heap.size + 2 := by simp
 obtain ⟨W0, hW0⟩ : ∃ W0, ((w.alloc o1).alloc o2).alloc (.cells #[.bool false] 4) = W0 := ⟨_, rfl⟩
 have hz0 : W0.heap.size = w.heap.size + 3 := by rw [← hW0]; simp
 have hk0 : Keeps [] w W0 := by rw [← hW0]; exact (((Keeps.refl [] w).alloc _).alloc _).alloc _
 have hr0 : W0.heap[w.heap.size]? = some o1 := by rw [← hW0]; exact blk_keep hb.1 ((Keeps.refl [] _).alloc _) (by simp)
 have hr1 : W0.heap[w.heap.size + 1]? = some o2 := by rw [← hW0]; exact blk_keep hb.2 ((Keeps.refl [] _).alloc _) (by simp)
 have hrc : W0.heap[w.heap.size + 2]? = some (.cells #[.bool false] 4 (0, 0)) := by rw [← hW0, ← hz2]; exact heap_new8 _ _
 rw [← ho1] at hr0 hW0
 rw [← ho2] at hr1 hW0
 obtain ⟨⟨y0, y1, y2, y3, y4⟩, _⟩ := five_facts hr0
 obtain ⟨⟨z0, z1, z2, z3, z4⟩, _⟩ := five_facts hr1
 obtain ⟨W2, hW2⟩ : ∃ W2, (W0.alloc (.cells #[.int .u8 (c : Int), .int .u8 (n : Int), .bool k, .slice A la ca, .slice B lb cb] 40)).alloc (.cells #[.int .u8 (c' : Int), .int .u8 (n' : Int), .bool k', .slice A' la' ca', .slice B' lb' cb'] 40) = W2 := ⟨_, rfl⟩
 have hk2 : Keeps [] W0 W2 := by rw [← hW2]; exact ((Keeps.refl [] W0).alloc _).alloc _
 have hb2 : W2.heap[W0.heap.size]? = some (.cells #[.int .u8 (c : Int), .int .u8 (n : Int), .bool k, .slice A la ca, .slice B lb cb] 40 (0, 0)) ∧ W2.heap[W0.heap.size + 1]? = some (.cells #[.int .u8 (c' : Int), .int .u8 (n' : Int), .bool k', .slice A' la' ca', .slice B' lb' cb'] 40 (0, 0)) := by rw [← hW2]; exact two_boxes W0 _ _
 have hzz : w.heap.size + 5 = W2.heap.size := by rw [← hW2]; simp [hz0]
 have HB2 := Lib.hid hb2
 have HRC := Lib.hid (blk_keep hrc hk2 (by simp))
 have HK2 := Lib.hid (hk0.trans' hk2)
 have HZ := Lib.hid hzz
 have HIM := Lib.hid (inmade_is c n k A la ca B lb cb c' n' k' A' la' ca' B' lb' cb' W0)
 rw [hW2] at HIM
 have HW0 := Lib.hid hW0
 clear hb hr0 hr1 hrc hk0 hk2 hW0 hW2 hz0 hz2 hb2 hzz ho1 ho2
 refine wpOf_seq (wpOf_of ?_)
 gi_wp2
 rw [HW0.out]
 refine wpOf_seq (wpOf_seq (wpOf_of ?_))
 gi_wp2_with (refine ⟨trivial, ?_⟩; gi_at_call 114; refine (callsIn_wide.2 HIM.out).mono ?_; rintro e w' ⟨rfl, rfl⟩)
 refine wpOf_block ?_
 clear y0 y1 y2 y3 y4 z0 z1 z2 z3 z4
 refine range_steps_w (X := BV × BV) (E := InE) (f := likeB) (res := allB likeB t t') Tryz.func54 rfl (fun _ _ => rfl) (instep_is likeB W0.heap.size (W0.heap.size + 1) t t' ⟨c, n, k, A, la, ca, B, lb, cb⟩ ⟨c', n', k', A', la', ca', B', lb', cb'⟩ W2 ?h2 ?h3 (BerAt.grow HK2.out t _ HT.out) (BerAt.grow HK2.out t' _ HT'.out) hn _ rfl)
  (fun x args W h => by obtain ⟨hx, hy, rfl, _⟩ := h; rfl)
  (fun x args A l o h hl => by
   obtain ⟨hx, hy, rfl, h1, h2⟩ := h
   obtain ⟨o', h3, h4⟩ := hl
   exact ⟨hx, hy, rfl, h1.map (cell_put h3 h4), h2.map (cell_put h3 h4)⟩)
  (fun X => Below w.heap.size w X ∧ X.cell? ⟨w.heap.size + 2, 0, none⟩ = some (.bool false)) (fun ch X => False) (fun A B h hb => ⟨h.1.trans (hb.mono (by have := HZ.out; omega)), (hb.cell (by have := HZ.out; show w.heap.size + 2 < _; omega)).trans h.2⟩) (fun ch A B h hb => h)
  (fun args X b => ∃ g hx hy, args[0]? = some (BH.val hx) ∧ args[1]? = some (BH.val hy) ∧ X.heap[g]? = some (BH.blk hx) ∧ X.heap[g + 1]? = some (BH.blk hy) ∧ b = { tmps := #[.agg #[.int .u8 (c : Int), .int .u8 (n : Int), .bool k, .slice A la ca, .slice B lb cb], .agg #[.int .u8 (c' : Int), .int .u8 (n' : Int), .bool k', .slice A' la' ca', .slice B' lb' cb'], .pointer (some ⟨w.heap.size, 0, none⟩), .pointer (some ⟨w.heap.size + 1, 0, none⟩), .pointer (some ⟨w.heap.size + 1 + 1, 0, none⟩), .pointer (some ⟨g, 0, none⟩), .pointer (some ⟨g + 1, 0, none⟩), .agg #[.int .u8 (c : Int), .int .u8 (n : Int), .bool k, .slice A la ca, .slice B lb cb], .agg #[.int .u8 (c' : Int), .int .u8 (n' : Int), .bool k', .slice A' la' ca', .slice B' lb' cb'], .func (.func 183) #[] #[.pointer (some ⟨W0.heap.size, 0, none⟩), .pointer (some ⟨W0.heap.size + 1, 0, none⟩)], args.getD 0 undef, args.getD 1 undef, undef, undef, undef, undef], defers := [] })
  ?hA ?assign ?body ?hEK ?done ?stop ?pan
 case h2 =>
  intro q u hu
  rw [cell_of_blk HB2.out.1]
  simpa [BH.list] using hu
 case h3 =>
  intro q u hu
  rw [cell_of_blk HB2.out.2]
  simpa [BH.list] using hu
 case hA =>
  rintro args X b l o ⟨g, hx, hy, h1, h2, h5, h6, rfl⟩ ⟨o', h3, h4⟩
  have hne : g ≠ l := by
   rintro rfl
   rw [h5] at h3
   cases h3
   cases h4
  have hne2 : g + 1 ≠ l := by
   rintro rfl
   rw [h6] at h3
   cases h3
   cases h4
  exact ⟨g, hx, hy, h1, h2, (World.putObj_heap_other hne).trans h5, (World.putObj_heap_other hne2).trans h6, rfl⟩
 case assign =>
  rintro l x args X K ⟨hx, hy, rfl, h1, h2⟩ hK
  have ha0 : (#[BH.val hx, BH.val hy])[0]? = some (BH.val hx) := rfl
  obtain ⟨cx, nx, kx, Ax, lax, cax, Bx, lbx, cbx⟩ := hx
  obtain ⟨cy, ny, ky, Ay, lay, cay, By, lby, cby⟩ := hy
  unfold BH.val
  have hbb := two_boxes X (.cells #[.int .u8 (cx : Int), .int .u8 (nx : Int), .bool kx, .slice Ax lax cax, .slice Bx lbx cbx] 40 (0, 0)) (.cells #[.int .u8 (cy : Int), .int .u8 (ny : Int), .bool ky, .slice Ay lay cay, .slice By lby cby] 40 (0, 0))
  have HBB := Lib.hid hbb
  clear hbb ha0
  gi_wp2
  exact hK _ _ (((Keeps.refl [] X).alloc _).alloc _) ⟨X.heap.size, ⟨cx, nx, kx, Ax, lax, cax, Bx, lbx, cbx⟩, ⟨cy, ny, ky, Ay, lay, cay, By, lby, cby⟩, rfl, rfl, HBB.out.1, HBB.out.2, rfl⟩
 case body =>
  rintro l x args X b hBX hzX ⟨hx, hy, rfl, h1, h2⟩ ⟨g, hx', hy', h3, h3', h4, h5, rfl⟩
  obtain rfl := val_inj (Option.some.inj h3)
  obtain rfl := val_inj (Option.some.inj h3')
  have HM : Hid (Calls Tryz.prog 115 #[hx.val, hy.val] X fun e w' => e = .returned (.bool (likeB x)) ∧ Keeps [] X w') := alike_is x.1 x.2 hx hy X h1 h2
  obtain ⟨cx, nx, kx, Ax, lax, cax, Bx, lbx, cbx⟩ := hx
  obtain ⟨cy, ny, ky, Ay, lay, cay, By, lby, cby⟩ := hy
  unfold BH.blk at h4 h5
  obtain ⟨⟨y0, y1, y2, y3, y4⟩, _⟩ := five_facts h4
  obtain ⟨⟨z0, z1, z2, z3, z4⟩, _⟩ := five_facts h5
  unfold BH.val at *
  have HB := Lib.hid hBX
  have HRX := Lib.hid ((hBX.block (w.heap.size + 2) (by have := HZ.out; omega)).trans HRC.out)
  have hsz := hBX.size
  clear h1 h2 h3 h3' h4 h5 hBX
  cases hs : likeB x
  ·rw [hs] at HM
   have HS := Lib.hid hs
   clear hs
   gi_wp2_with (refine ⟨trivial, ?_⟩; gi_at_call 115; refine (CallsIn.inRound l (callsIn_wide.2 HM.out)).mono ?_; rintro e X1 ⟨rfl, hb1⟩; have hq := blk_keep HRX.out hb1 (by simp); have c1 := cell_of_blk hq 0; have f1 := free_of_blk hq 0; have HQ := Lib.hid hq; have HB1 := Lib.hid hb1; clear hq hb1)
   refine ⟨HS.out, (Over.of_keeps HB1.out).trans ⟨rfl, rfl, rfl, by simp [World.setCell], fun k hk _ => Below.heap_setCell _ _ _ _ (by have := HZ.out; show k ≠ w.heap.size + 2; omega)⟩, ?_, set_sameb5 (cell_of_blk HQ.out 0) _ _ (cell_of_blk HQ.out 0)⟩
   exact ((HK2.out.below (Nat.le_refl _) (by simp)).trans ((HB.out.mono (by have := HZ.out; omega)).trans (HB1.out.below (by have := HZ.out; omega) (by simp)))).setCell (by show w.heap.size ≤ w.heap.size + 2; omega) _
  ·rw [hs] at HM
   have HS := Lib.hid hs
   clear hs
   gi_wp2_with (refine ⟨trivial, ?_⟩; gi_at_call 115; refine (CallsIn.inRound l (callsIn_wide.2 HM.out)).mono ?_; rintro e X1 ⟨rfl, hb1⟩)
   exact ⟨HS.out, hb1⟩
 case hEK =>
  rintro x args X Y ⟨hx, hy, rfl, h1, h2⟩ hk
  exact ⟨hx, hy, rfl, BerAt.grow hk _ _ h1, BerAt.grow hk _ _ h2⟩
 case done =>
  intro X hr hB hm
  have hq := (hB.block (w.heap.size + 2) (by have := HZ.out; omega)).trans HRC.out
  have c1 := cell_of_blk hq 0
  have f1 := free_of_blk hq 0
  have HR := Lib.hid hr
  have HB := Lib.hid hB
  have HM := Lib.hid hm
  have HQ := Lib.hid hq
  clear hr hB hm hq
  refine wpOf_of ?_
  gi_wp2
  obtain ⟨X3, hX3⟩ : ∃ X3, X.setCell ⟨w.heap.size + 1 + 1, 0, none⟩ (.bool true) = X3 := ⟨_, rfl⟩
  have hm3 : X3.heap[W2.heap.size]? = some (.deferred (some [])) := by rw [← hX3]; exact (Below.heap_setCell _ _ _ _ (by have := HZ.out; show W2.heap.size ≠ w.heap.size + 2; omega)).trans HM.out
  have hc3 : X3.cell? ⟨w.heap.size + 2, 0, none⟩ = some (.bool true) := by rw [← hX3]; exact World.cell?_setCell_same X ⟨w.heap.size + 2, 0, none⟩ (.bool true) (cell_of_blk HQ.out 0)
  have hb3 : Below w.heap.size w X3 := by rw [← hX3]; exact ((HK2.out.below (Nat.le_refl _) (by simp)).trans (HB.out.mono (by have := HZ.out; omega))).setCell (by show w.heap.size ≤ w.heap.size + 2; omega) _
  have hkp : Kept w.heap.size X3 (X3.putObj W2.heap.size (.deferred none)) := Kept.put (by have := HZ.out; omega) hm3 rfl
  have hsz := hb3.size
  subst hX3
  refine ⟨by simp, .inl ⟨_, _, rfl, run_takeDeferred hm3, ?_⟩⟩
  refine ⟨_, results_cell1b5 rfl _ _ rfl (fun w hc => load_var Tryz.isAgg4 w hc) (hkp.cell hc3), ?_⟩
  rw [← all_like, HR.out]
  exact ⟨rfl, Keeps.of_below (hb3.trans (hkp.below hsz))⟩
 case stop =>
  rintro X hr ⟨hB, hc⟩ hm
  have hkp : Kept w.heap.size X (X.putObj W2.heap.size (.deferred none)) := Kept.put (by have := HZ.out; omega) hm rfl
  gi_wp2
  refine ⟨by simp, .inl ⟨_, _, rfl, run_takeDeferred hm, ?_⟩⟩
  refine ⟨_, results_cell1b5 rfl _ _ rfl (fun w hc => load_var Tryz.isAgg4 w hc) (hkp.cell hc), ?_⟩
  rw [← all_like, hr]
  exact ⟨rfl, Keeps.of_below (hB.trans (hkp.below hB.size))⟩
 case pan => exact fun _ _ _ h => h.elim
theorem tagged_own (t : BV) (h : BH) (cl nu : Nat) (w : World) (ht : BerAt w t h) (hn : nodesB t ≤ 1000000000) (hm : maxB t ≤ 1000000000) (hcl : cl < 256) (hnu : nu < 256) :
  Calls Tryz.prog 102 #[h.val, .int .u8 (cl : Int), .int .u8 (nu : Int)] w fun e w' => ∃ h' : BH, e = .returned h'.val ∧ (∀ (E : List Nat) X, (∀ x ∈ E, x < w.heap.size) → Keeps E w' X → BerAt X (.mk cl nu t.k t.b t.l) h') ∧ Keeps [] w w' := by
 have HT := Lib.hid ht
 obtain ⟨c, n, k, A, la, ca, B, lb, cb⟩ := h
 clear ht
 obtain ⟨W0, hW0⟩ : ∃ W0, (w.alloc (.cells #[.int .u8 (c : Int), .int .u8 (n : Int), .bool k, .slice A la ca, .slice B lb cb] 40)).alloc ber0 = W0 := ⟨_, rfl⟩
 have hz0 : W0.heap.size = w.heap.size + 2 := by rw [← hW0]; simp
 have hk0 : Keeps [] w W0 := by rw [← hW0]; exact ((Keeps.refl [] w).alloc _).alloc _
 have hr0 : W0.heap[w.heap.size]? = some (.cells #[.int .u8 (c : Int), .int .u8 (n : Int), .bool k, .slice A la ca, .slice B lb cb] 40 (0, 0)) := by rw [← hW0]; exact (Below.heap_alloc _ _ _ (by simp)).trans (heap_new8 w _)
 have hr1 : W0.heap[w.heap.size + 1]? = some ber0 := by
  rw [← hW0]
  have h9 := heap_new8 (w.alloc (.cells #[.int .u8 (c : Int), .int .u8 (n : Int), .bool k, .slice A la ca, .slice B lb cb] 40)) ber0
  rwa [World.size_alloc] at h9
 obtain ⟨⟨y0, y1, y2, y3, y4⟩, _⟩ := five_facts hr0
 obtain ⟨W1, hW1⟩ : ∃ W1, W0.alloc (.cells #[.int .u8 (c : Int), .int .u8 (n : Int), .bool k, .slice A la ca, .slice B lb cb] 40) = W1 := ⟨_, rfl⟩
 have hz1 : W1.heap.size = w.heap.size + 3 := by rw [← hW1]; simp [hz0]
 have hk1 : Keeps [] W0 W1 := by rw [← hW1]; exact (Keeps.refl [] W0).alloc _
 have hr2 : W1.heap[W0.heap.size]? = some (.cells #[.int .u8 (c : Int), .int .u8 (n : Int), .bool k, .slice A la ca, .slice B lb cb] 40 (0, 0)) := by rw [← hW1]; exact heap_new8 W0 _
 have HZ1 := Lib.hid hz1
 have HR1 := Lib.hid (blk_keep hr1 hk1 (by simp))
 have HK1 := Lib.hid (hk0.trans' hk1)
 have HC := Lib.hid (copies_is (some ⟨W0.heap.size, 0, none⟩) 1 1 [t] W1 rfl ⟨⟨_, _, ⟨c, n, k, A, la, ca, B, lb, cb⟩, rfl, fun q u hu => by rw [cell_of_blk hr2]; simpa [BH.list] using hu, BerAt.grow (hk0.trans' hk1) t _ HT.out⟩, trivial⟩ (by simp [nodesL]; omega) (by simp [maxL]; omega))
 clear hr2 hk0 hk1 hr0 hr1 hz0 hz1 HT hn hm
 unfold BH.val
 go_enter Tryz.func102, Tryz.ntmps102
 go_wp2_with fail
 refine HC.out.mono ?_
 rintro e w2 ⟨C, d, rfl, hi, hd1, hd2, hk2, hC⟩
 obtain ⟨⟨b, o, h, rfl, hcc, hbb⟩, _⟩ := hi [] w2 (by simp) (Keeps.refl _ _)
 rw [Nat.zero_mul, Nat.add_zero] at hcc
 obtain ⟨g0, g1, g2, g3, g4⟩ := five_at hcc
 have hr2 := blk_keep HR1.out hk2 (by simp)
 have HBER : Hid (∀ (E : List Nat) X, (∀ x ∈ E, x < w.heap.size + 2) → Keeps E w2 X → BerAt X t h) := fun E X hE hk => by
  obtain ⟨⟨b', o', h', hB, hcc', hbb'⟩, _⟩ := hi E X (fun x hx => by have := HZ1.out; have := hE x hx; omega) hk
  injection hB with hB
  injection hB with e1 e2 _
  subst e1 e2
  have hne : b ∉ E := fun hb => by
   have h8 := hC b (by simp [ob])
   have h9 := HZ1.out
   have h10 := hE b hb
   omega
  have he : h' = h := by
   have hs : ∀ q u, h.list[q]? = some u → h'.list[q]? = some u := fun q u hu => by
    have h8 := (hk.cell (lt_of_cell (hcc q u hu)) hne).trans (hcc q u hu)
    have hq : q < 5 := (List.getElem?_eq_some_iff.1 hu).1
    have h9 : h'.list[q]? = some (h'.list[q]'hq) := List.getElem?_eq_getElem _
    have h10 := hcc' q _ h9
    rw [Nat.zero_mul, Nat.add_zero] at h10
    rw [h8] at h10
    rw [h9]
    exact h10.symm
   have s0 := hs 0 _ rfl
   have s1 := hs 1 _ rfl
   have s2 := hs 2 _ rfl
   have s3 := hs 3 _ rfl
   have s4 := hs 4 _ rfl
   obtain ⟨_, _, _, _, _, _, _, _, _⟩ := h
   obtain ⟨_, _, _, _, _, _, _, _, _⟩ := h'
   simp [BH.list] at s0 s1 s2 s3 s4
   have s0 := Int.ofNat_inj.1 s0
   have s1 := Int.ofNat_inj.1 s1
   obtain ⟨s3, s5, s6⟩ := s3
   obtain ⟨s4, s7, s8⟩ := s4
   rw [s0, s1, s2, s3, s4, s5, s6, s7, s8]
  rw [← he]
  exact hbb'
 obtain ⟨c', n', k', A', la', ca', B', lb', cb'⟩ := h
 obtain ⟨W3, hW3⟩ : ∃ W3, w2.alloc (.cells #[.int .u8 (cl : Int), .int .u8 (nu : Int), .bool k', .slice A' la' ca', .slice B' lb' cb'] 40) = W3 := ⟨_, rfl⟩
 have hk3 : Keeps [] w2 W3 := by rw [← hW3]; exact (Keeps.refl [] w2).alloc _
 have hr3 := blk_keep hr2 hk3 (by simp)
 obtain ⟨⟨x0, x1, x2, x3, x4⟩, ⟨f0, f1, f2, f3, f4⟩⟩ := five_facts hr3
 have hn3 : W3.heap[w2.heap.size]? = some (.cells #[.int .u8 (cl : Int), .int .u8 (nu : Int), .bool k', .slice A' la' ca', .slice B' lb' cb'] 40 (0, 0)) := by rw [← hW3]; exact heap_new8 w2 _
 obtain ⟨⟨v0, v1, v2, v3, v4⟩, _⟩ := five_facts hn3
 have HR3 := Lib.hid hr3
 have HK3 := Lib.hid hk3
 have HKA := Lib.hid (HK1.out.trans' (hk2.trans' hk3))
 clear hr3 hk3 hk2 hr2 hi hcc hbb hC hn3
 go_wp2_with fail
 have hrow := five_set (v0 := .int .u8 (cl : Int)) (v1 := .int .u8 (nu : Int)) (v2 := .bool k') (v3 := .slice A' la' ca') (v4 := .slice B' lb' cb') HR3.out
 have hkf := five_keep (v0 := .int .u8 (cl : Int)) (v1 := .int .u8 (nu : Int)) (v2 := .bool k') (v3 := .slice A' la' ca') (v4 := .slice B' lb' cb') HKA.out (g := w.heap.size + 1) (.inr (Nat.le_succ _))
 have hks := five_keep (bs := [w.heap.size + 1]) (v0 := .int .u8 (cl : Int)) (v1 := .int .u8 (nu : Int)) (v2 := .bool k') (v3 := .slice A' la' ca') (v4 := .slice B' lb' cb') (HK3.out.mono (by simp)) (g := w.heap.size + 1) (.inl (by simp))
 refine ret_ber rfl rfl rfl hrow rfl ⟨⟨cl, nu, k', A', la', ca', B', lb', cb'⟩, rfl, fun E X hE hk => ?_, hkf⟩
 have hk9 : Keeps ((w.heap.size + 1) :: E) w2 X := (hks.mono (by simp)).trans hk (fun x hx => .inl (List.mem_cons_of_mem _ hx))
 have h9 := HBER.out ((w.heap.size + 1) :: E) X (fun x hx => by
  rcases List.mem_cons.1 hx with hx | hx
  ·omega
  ·have := hE x hx; omega) hk9
 obtain ⟨tc, tn, tk, tb, tl⟩ := t
 obtain ⟨q1, q2, q3, q4, q5, q6, q7, q8, q9, q10, q11⟩ := h9
 exact ⟨rfl, rfl, q3, hcl, hnu, q6, q7, q8, q9, q10, q11⟩
end Go.Proofs.YtbfebljahjmjfaaGreatDoor
/- filter: a text as a value, in memory of its own. -/
namespace Go.Proofs.YtbfebljahjmjfaaGreatDoor
open Go.RowKit Go.Shelf
set_option linter.unusedVariables false
set_option linter.unusedSimpArgs false
set_option maxRecDepth 100000

theorem text_own (s : List UInt8) (w : World) (hs : s.length ≤ 9223372036854775807) : Calls Tryz.prog 210 #[.string ⟨s.toArray⟩] w fun e w' => ∃ h : BH, e = .returned h.val ∧ (∀ (E : List Nat) X, (∀ x ∈ E, x < w.heap.size) → Keeps E w' X → BerAt X (.mk 0 4 false s []) h) ∧ Keeps [] w w' := by
 obtain ⟨C, O, hc, hb⟩ := conv8 s hs
 have HBY := Lib.hid hb
 have HB := Lib.hid (fun X A la ca => holdb_is 4 A la ca X)
 clear hb
 go_enter Tryz.func210, Tryz.ntmps210
 go_wp2_with fail
 refine (HB.out _ _ _ _).mono ?_
 rintro e w2 ⟨rfl, hk⟩
 have HK2 := Lib.hid (((((Keeps.refl [] w).alloc ber0).drew).alloc (O (w.alloc ber0))).trans' hk)
 have HO2 := Lib.hid ((HBY.out (w.alloc ber0)).grow hk)
 rw [show (w.alloc ber0).heap.size = w.heap.size + 1 by simp] at HO2
 have hrow : w2.heap[w.heap.size]? = some (.cells #[.int .u8 0, .int .u8 0, .bool false, .slice none 0 0, .slice none 0 0] 40 (0, 0)) := blk_keep (blk_keep (heap_new8 w _) (((Keeps.refl [] (w.alloc ber0)).drew).alloc (O (w.alloc ber0))) (by simp)) hk (by simp)
 have HR := Lib.hid hrow
 obtain ⟨⟨c0, c1, c2, c3, c4⟩, ⟨f0, f1, f2, f3, f4⟩⟩ := five_facts hrow
 clear hrow hk
 go_wp2_with fail
 refine ret_ber rfl rfl rfl (five_set HR.out) rfl ⟨⟨0, 4, false, some ⟨w.heap.size + 1, 0, none⟩, s.length, C (w.alloc ber0), none, 0, 0⟩, rfl, fun E X hE hk => ?_, five_keep HK2.out (.inr (Nat.le_refl _))⟩
 refine BerAt.flat (by decide) (by decide) rfl ((five_bytes HO2.out (fun b hb => by simp [Value.ownBlock] at hb; omega)).keep hk (fun b hb => ?_))
 simp [Value.ownBlock] at hb
 intro hm
 have := hE b hm
 omega
end Go.Proofs.YtbfebljahjmjfaaGreatDoor
