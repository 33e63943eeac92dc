/- Texts of one proof, laid together: T9 T10 T11. -/
import Derived.Test.YtnengckecooohaaM21
/- ber: are two values alike but for what they hold? -/
namespace Go.Proofs.Ytnengckecooohaa
open Go.RowKit Go.Shelf
set_option linter.unusedVariables false
set_option linter.unusedSimpArgs false
set_option maxRecDepth 100000

def likeB : BV × BV → Bool
  | (.mk c n k b l, .mk c' n' k' b' l') => c == c' && (n == n' && (k == k' && (b == b' && l.length == l'.length)))
theorem allL_like : ∀ (l l' : List BV), (∀ t ∈ l, ∀ y, allB likeB t y = sameB t y) → allL likeB l l' = sameL l l'
  | [], l', _ => by simp [allL, sameL]
  | x :: r, [], _ => by simp [allL, sameL]
  | x :: r, y :: s, h => by
    simp only [allL, sameL]
    rw [h x (by simp), allL_like r s (fun t ht => h t (by simp [ht]))]
theorem all_like (x y : BV) : allB likeB x y = sameB x y := by
  induction x using BV.ind generalizing y with
  | h c n k b l ih =>
    obtain ⟨c', n', k', b', l'⟩ := y
    rw [allB_mk]
    show (likeB _ && allL likeB l l') = _
    rw [allL_like l l' ih]
    rfl

set_option maxHeartbeats 2000000 in
theorem alike_is (x y : BV) (h h' : BH) (w : World) (hx : BerAt w x h) (hy : BerAt w y h') : Calls Try.prog 44 #[h.val, h'.val] w fun e w' => e = .returned (.bool (likeB (x, y))) ∧ Keeps [] w w' := by
  obtain ⟨c, n, k, b, l⟩ := x
  obtain ⟨c', n', k', b', l'⟩ := y
  obtain ⟨rfl, rfl, rfl, h4, h5, h6, h7, h8, h9, h10, h11⟩ := hx
  obtain ⟨rfl, rfl, rfl, i4, i5, i6, i7, i8, i9, i10, i11⟩ := hy
  obtain ⟨c, n, k, A, la, ca, B, lb, cb⟩ := h
  obtain ⟨c', n', k', A', la', ca', B', lb', cb'⟩ := h'
  have hl : l.length = lb := h8
  have hl' : l'.length = lb' := i8
  have HF : Hid (likeB (.mk c n k b l, .mk c' n' k' b' l') = (decide ((c : Int) = (c' : Int)) && (decide ((n : Int) = (n' : Int)) && (decide (k = k') && ((b == b') && decide ((lb : Int) = (lb' : Int))))))) := by
    show _ = _
    show (c == c' && (n == n' && (k == k' && (b == b' && l.length == l'.length)))) = _
    rw [hl, hl']
    have e1 : ∀ p q : Nat, (p == q) = decide ((p : Int) = (q : Int)) := fun p q => by rw [Bool.eq_iff_iff]; simp; omega
    rw [e1, e1, e1]
    congr 3
    all_goals (cases k <;> cases k' <;> rfl)
  have HK : Hid (∀ o1 o2, Keeps [] w ((w.alloc o1).alloc o2)) := fun o1 o2 => ((Keeps.refl [] w).alloc o1).alloc o2
  have HEQ : Hid (∀ o1 o2, Calls Try.prog 49 #[.slice A la ca, .slice A' la' ca'] ((w.alloc o1).alloc o2) fun e w' => e = .returned (.bool (b == b')) ∧ (w.alloc o1).alloc o2 = w') := fun o1 o2 => equal_any _ _ b b' _ (h7.grow (HK.out o1 o2)) (i7.grow (HK.out o1 o2))
  clear h4 h5 h6 h7 h8 h9 h10 h11 i4 i5 i6 i7 i8 i9 i10 i11 hl hl'
  unfold BH.val
  rw [HF.out]
  by_cases h1 : (c : Int) = (c' : Int)
  · by_cases h2 : (n : Int) = (n' : Int)
    · by_cases h3 : k = k'
      · subst h3
        rw [decide_eq_true h1, decide_eq_true h2, decide_eq_true rfl, Bool.true_and, Bool.true_and, Bool.true_and]
        obtain ⟨q, hq⟩ : ∃ q, (b == b') = q := ⟨_, rfl⟩
        rw [hq] at HEQ ⊢
        clear hq HF
        go_enter Try.func44, Try.ntmps44
        go_wp2_with fail
        refine (HEQ.out _ _).mono ?_
        rintro e w' ⟨rfl, rfl⟩
        cases q
        · go_wp2_with fail
          go_ret
          exact ⟨rfl, HK.out _ _⟩
        · go_wp2_with fail
          go_ret
          exact ⟨by simp; rw [Bool.eq_iff_iff, beq_iff_eq, decide_eq_true_eq], HK.out _ _⟩
      · rw [decide_eq_false h3, Bool.false_and, Bool.and_false, Bool.and_false]
        clear HF HEQ
        go_enter Try.func44, Try.ntmps44
        go_wp2_with fail
        go_ret
        exact ⟨rfl, HK.out _ _⟩
    · rw [decide_eq_false h2, Bool.false_and, Bool.and_false]
      clear HF HEQ
      go_enter Try.func44, Try.ntmps44
      go_wp2_with fail
      go_ret
      exact ⟨rfl, HK.out _ _⟩
  · rw [decide_eq_false h1, Bool.false_and]
    clear HF HEQ
    go_enter Try.func44, Try.ntmps44
    go_wp2_with fail
    go_ret
    exact ⟨rfl, HK.out _ _⟩

/-- Values whose bytes are the same are the same. -/
theorem enc_inj {s t : BV} {xs : List UInt8} (h1 : encB s = .inr xs) (h2 : encB t = .inr xs) : s = t := by
  have h3 := dec_back h1
  rw [dec_back h2] at h3
  injection h3 with h3
  exact h3.symm

end Go.Proofs.Ytnengckecooohaa
/- ber: the program's Same. -/
namespace Go.Proofs.Ytnengckecooohaa
open Go.RowKit Go.Shelf
set_option linter.unusedVariables false
set_option linter.unusedSimpArgs false
set_option maxRecDepth 100000
attribute [local go_sem] Oper.semAt_some

theorem results_cell1 {P : Program} {fn : Func} {p : Tmp} {t1 : TypeId} (h : fn.results = #[.cell p t1]) (tmps : Array Value) (w : World) {a : Nat} {u : Value}
    (ha : tmps.getD p undef = .pointer (some ⟨a, 0, none⟩)) (h1 : ∀ w, w.cell? ⟨a, 0, none⟩ = some u → (loadVar t1 ⟨a, 0, none⟩).run P w = .ok u w) (ca : w.cell? ⟨a, 0, none⟩ = some u) : (results fn tmps).run P w = .ok u w := by
  have ha' : tmps[p]?.getD undef = .pointer (some ⟨a, 0, none⟩) := by simpa using ha
  simp [results, h, ha', asAddr, h1 w ca]
theorem load_var {t : TypeId} {g : Nat} {v : Value} (hagg : ∀ w, (isAgg t).run Try.prog w = .ok false w) (w : World) (hc : w.cell? ⟨g, 0, none⟩ = some v) : (loadVar t ⟨g, 0, none⟩).run Try.prog w = .ok v w := by
  simp [loadVar, Sem.run_bind, hagg, hc, go_sem]
theorem val_inj {hx hx' : BH} (h3 : BH.val hx = BH.val hx') : hx = hx' := by
  obtain ⟨_, _, _, _, _, _, _, _, _⟩ := hx
  obtain ⟨_, _, _, _, _, _, _, _, _⟩ := hx'
  simp only [BH.val] at h3
  simp at h3
  obtain ⟨e1, e2, e3, ⟨e4, e5, e6⟩, e7, e8, e9⟩ := h3
  have e1 := Int.ofNat_inj.1 e1
  have e2 := Int.ofNat_inj.1 e2
  rw [e1, e2, e3, e4, e5, e6, e7, e8, e9]
def BH.blk (h : BH) : Obj := .cells #[.int .u8 (h.c : Int), .int .u8 (h.n : Int), .bool h.k, .slice h.A h.la h.ca, .slice h.B h.lb h.cb] 25 (0, 0)

set_option maxHeartbeats 1000000 in
theorem bsame_is (t t' : BV) (h h' : BH) (w : World) (ht : BerAt w t h) (ht' : BerAt w t' h') (hn : nodesB t ≤ 1000000000) :
    Calls Try.prog 18 #[h.val, h'.val] w fun e w' => e = .returned (.bool (sameB t t')) ∧ Keeps [] w w' := by
  have HT := Lib.hid ht
  have HT' := Lib.hid ht'
  obtain ⟨c, n, k, A, la, ca, B, lb, cb⟩ := h
  obtain ⟨c', n', k', A', la', ca', B', lb', cb'⟩ := h'
  clear ht ht'
  unfold BH.val
  refine (callsIn_wide (n := 3)).1 ?_
  refine callsIn_of_wpOf (g := 18) Try.func18 rfl trivial ?_
  simp only [Try.ntmps18, List.size_toArray, List.length_cons, List.length_nil, Nat.reduceAdd, Nat.reduceSub, Array.replicate_succ, Array.replicate_zero, List.push_toArray, List.append_toArray, List.nil_append, List.cons_append]
  obtain ⟨o1, ho1⟩ : ∃ o1 : Obj, Obj.cells #[.int .u8 (c : Int), .int .u8 (n : Int), .bool k, .slice A la ca, .slice B lb cb] 25 (0, 0) = o1 := ⟨_, rfl⟩
  obtain ⟨o2, ho2⟩ : ∃ o2 : Obj, Obj.cells #[.int .u8 (c' : Int), .int .u8 (n' : Int), .bool k', .slice A' la' ca', .slice B' lb' cb'] 25 (0, 0) = o2 := ⟨_, rfl⟩
  have hb := two_boxes w o1 o2
  have hz2 : ((w.alloc o1).alloc o2).heap.size = w.heap.size + 2 := by simp
  obtain ⟨W0, hW0⟩ : ∃ W0, ((w.alloc o1).alloc o2).alloc (.cells #[.bool false] 4) = W0 := ⟨_, rfl⟩
  have hz0 : W0.heap.size = w.heap.size + 3 := by rw [← hW0]; simp
  have hk0 : Keeps [] w W0 := by rw [← hW0]; exact (((Keeps.refl [] w).alloc _).alloc _).alloc _
  have hr0 : W0.heap[w.heap.size]? = some o1 := by rw [← hW0]; exact blk_keep hb.1 ((Keeps.refl [] _).alloc _) (by simp)
  have hr1 : W0.heap[w.heap.size + 1]? = some o2 := by rw [← hW0]; exact blk_keep hb.2 ((Keeps.refl [] _).alloc _) (by simp)
  have hrc : W0.heap[w.heap.size + 2]? = some (.cells #[.bool false] 4 (0, 0)) := by rw [← hW0, ← hz2]; exact heap_new8 _ _
  rw [← ho1] at hr0 hW0
  rw [← ho2] at hr1 hW0
  obtain ⟨⟨y0, y1, y2, y3, y4⟩, _⟩ := five_facts hr0
  obtain ⟨⟨z0, z1, z2, z3, z4⟩, _⟩ := five_facts hr1
  obtain ⟨W2, hW2⟩ : ∃ W2, (W0.alloc (.cells #[.int .u8 (c : Int), .int .u8 (n : Int), .bool k, .slice A la ca, .slice B lb cb] 25)).alloc (.cells #[.int .u8 (c' : Int), .int .u8 (n' : Int), .bool k', .slice A' la' ca', .slice B' lb' cb'] 25) = W2 := ⟨_, rfl⟩
  have hk2 : Keeps [] W0 W2 := by rw [← hW2]; exact ((Keeps.refl [] W0).alloc _).alloc _
  have hb2 : W2.heap[W0.heap.size]? = some (.cells #[.int .u8 (c : Int), .int .u8 (n : Int), .bool k, .slice A la ca, .slice B lb cb] 25 (0, 0)) ∧ W2.heap[W0.heap.size + 1]? = some (.cells #[.int .u8 (c' : Int), .int .u8 (n' : Int), .bool k', .slice A' la' ca', .slice B' lb' cb'] 25 (0, 0)) := by rw [← hW2]; exact two_boxes W0 _ _
  have hzz : w.heap.size + 5 = W2.heap.size := by rw [← hW2]; simp [hz0]
  have HB2 := Lib.hid hb2
  have HRC := Lib.hid (blk_keep hrc hk2 (by simp))
  have HK2 := Lib.hid (hk0.trans' hk2)
  have HZ := Lib.hid hzz
  have HIM := Lib.hid (inmade_is c n k A la ca B lb cb c' n' k' A' la' ca' B' lb' cb' W0)
  rw [hW2] at HIM
  have HW0 := Lib.hid hW0
  clear hb hr0 hr1 hrc hk0 hk2 hW0 hW2 hz0 hz2 hb2 hzz ho1 ho2
  refine wpOf_seq (wpOf_of ?_)
  gi_wp2
  rw [HW0.out]
  refine wpOf_seq (wpOf_seq (wpOf_of ?_))
  gi_wp2_with (refine ⟨trivial, ?_⟩; gi_at_call 43; refine (callsIn_wide.2 HIM.out).mono ?_; rintro e w' ⟨rfl, rfl⟩)
  refine wpOf_block ?_
  clear y0 y1 y2 y3 y4 z0 z1 z2 z3 z4
  refine range_steps_w (X := BV × BV) (E := InE) (f := likeB) (res := allB likeB t t') Try.func18 rfl (fun _ _ => rfl) (instep_is likeB W0.heap.size (W0.heap.size + 1) t t' ⟨c, n, k, A, la, ca, B, lb, cb⟩ ⟨c', n', k', A', la', ca', B', lb', cb'⟩ W2 ?h2 ?h3 (BerAt.grow HK2.out t _ HT.out) (BerAt.grow HK2.out t' _ HT'.out) hn _ rfl)
    (fun x args W h => by obtain ⟨hx, hy, rfl, _⟩ := h; rfl)
    (fun x args A l o h hl => by
      obtain ⟨hx, hy, rfl, h1, h2⟩ := h
      obtain ⟨o', h3, h4⟩ := hl
      exact ⟨hx, hy, rfl, h1.map (cell_put h3 h4), h2.map (cell_put h3 h4)⟩)
    (fun X => Below w.heap.size w X ∧ X.cell? ⟨w.heap.size + 2, 0, none⟩ = some (.bool false)) (fun ch X => False) (fun A B h hb => ⟨h.1.trans (hb.mono (by have := HZ.out; omega)), (hb.cell (by have := HZ.out; show w.heap.size + 2 < _; omega)).trans h.2⟩) (fun ch A B h hb => h)
    (fun args X b => ∃ g hx hy, args[0]? = some (BH.val hx) ∧ args[1]? = some (BH.val hy) ∧ X.heap[g]? = some (BH.blk hx) ∧ X.heap[g + 1]? = some (BH.blk hy) ∧ b = { tmps := #[.agg #[.int .u8 (c : Int), .int .u8 (n : Int), .bool k, .slice A la ca, .slice B lb cb], .agg #[.int .u8 (c' : Int), .int .u8 (n' : Int), .bool k', .slice A' la' ca', .slice B' lb' cb'], .pointer (some ⟨w.heap.size, 0, none⟩), .pointer (some ⟨w.heap.size + 1, 0, none⟩), .pointer (some ⟨w.heap.size + 1 + 1, 0, none⟩), .pointer (some ⟨g, 0, none⟩), .pointer (some ⟨g + 1, 0, none⟩), .agg #[.int .u8 (c : Int), .int .u8 (n : Int), .bool k, .slice A la ca, .slice B lb cb], .agg #[.int .u8 (c' : Int), .int .u8 (n' : Int), .bool k', .slice A' la' ca', .slice B' lb' cb'], .func (.func 63) #[] #[.pointer (some ⟨W0.heap.size, 0, none⟩), .pointer (some ⟨W0.heap.size + 1, 0, none⟩)], args.getD 0 undef, args.getD 1 undef, undef, undef, undef, undef], defers := [] })
    ?hA ?assign ?body ?hEK ?done ?stop ?pan
  case h2 =>
    intro q u hu
    rw [cell_of_blk HB2.out.1]
    simpa [BH.list] using hu
  case h3 =>
    intro q u hu
    rw [cell_of_blk HB2.out.2]
    simpa [BH.list] using hu
  case hA =>
    rintro args X b l o ⟨g, hx, hy, h1, h2, h5, h6, rfl⟩ ⟨o', h3, h4⟩
    have hne : g ≠ l := by
      rintro rfl
      rw [h5] at h3
      cases h3
      cases h4
    have hne2 : g + 1 ≠ l := by
      rintro rfl
      rw [h6] at h3
      cases h3
      cases h4
    exact ⟨g, hx, hy, h1, h2, (World.putObj_heap_other hne).trans h5, (World.putObj_heap_other hne2).trans h6, rfl⟩
  case assign =>
    rintro l x args X K ⟨hx, hy, rfl, h1, h2⟩ hK
    have ha0 : (#[BH.val hx, BH.val hy])[0]? = some (BH.val hx) := rfl
    obtain ⟨cx, nx, kx, Ax, lax, cax, Bx, lbx, cbx⟩ := hx
    obtain ⟨cy, ny, ky, Ay, lay, cay, By, lby, cby⟩ := hy
    unfold BH.val
    have hbb := two_boxes X (.cells #[.int .u8 (cx : Int), .int .u8 (nx : Int), .bool kx, .slice Ax lax cax, .slice Bx lbx cbx] 25 (0, 0)) (.cells #[.int .u8 (cy : Int), .int .u8 (ny : Int), .bool ky, .slice Ay lay cay, .slice By lby cby] 25 (0, 0))
    have HBB := Lib.hid hbb
    clear hbb ha0
    gi_wp2
    exact hK _ _ (((Keeps.refl [] X).alloc _).alloc _) ⟨X.heap.size, ⟨cx, nx, kx, Ax, lax, cax, Bx, lbx, cbx⟩, ⟨cy, ny, ky, Ay, lay, cay, By, lby, cby⟩, rfl, rfl, HBB.out.1, HBB.out.2, rfl⟩
  case body =>
    rintro l x args X b hBX hzX ⟨hx, hy, rfl, h1, h2⟩ ⟨g, hx', hy', h3, h3', h4, h5, rfl⟩
    obtain rfl := val_inj (Option.some.inj h3)
    obtain rfl := val_inj (Option.some.inj h3')
    have HM : Hid (Calls Try.prog 44 #[hx.val, hy.val] X fun e w' => e = .returned (.bool (likeB x)) ∧ Keeps [] X w') := alike_is x.1 x.2 hx hy X h1 h2
    obtain ⟨cx, nx, kx, Ax, lax, cax, Bx, lbx, cbx⟩ := hx
    obtain ⟨cy, ny, ky, Ay, lay, cay, By, lby, cby⟩ := hy
    unfold BH.blk at h4 h5
    obtain ⟨⟨y0, y1, y2, y3, y4⟩, _⟩ := five_facts h4
    obtain ⟨⟨z0, z1, z2, z3, z4⟩, _⟩ := five_facts h5
    unfold BH.val at *
    have HB := Lib.hid hBX
    have HRX := Lib.hid ((hBX.block (w.heap.size + 2) (by have := HZ.out; omega)).trans HRC.out)
    have hsz := hBX.size
    clear h1 h2 h3 h3' h4 h5 hBX
    cases hs : likeB x
    · rw [hs] at HM
      have HS := Lib.hid hs
      clear hs
      gi_wp2_with (refine ⟨trivial, ?_⟩; gi_at_call 44; refine (CallsIn.inRound l (callsIn_wide.2 HM.out)).mono ?_; rintro e X1 ⟨rfl, hb1⟩; have hq := blk_keep HRX.out hb1 (by simp); have c1 := cell_of_blk hq 0; have f1 := free_of_blk hq 0; have HQ := Lib.hid hq; have HB1 := Lib.hid hb1; clear hq hb1)
      refine ⟨HS.out, (Over.of_keeps HB1.out).trans ⟨rfl, rfl, rfl, by simp [World.setCell], fun k hk _ => Below.heap_setCell _ _ _ _ (by have := HZ.out; show k ≠ w.heap.size + 2; omega)⟩, ?_, set_same (cell_of_blk HQ.out 0) _ _ (cell_of_blk HQ.out 0)⟩
      exact ((HK2.out.below (Nat.le_refl _) (by simp)).trans ((HB.out.mono (by have := HZ.out; omega)).trans (HB1.out.below (by have := HZ.out; omega) (by simp)))).setCell (by show w.heap.size ≤ w.heap.size + 2; omega) _
    · rw [hs] at HM
      have HS := Lib.hid hs
      clear hs
      gi_wp2_with (refine ⟨trivial, ?_⟩; gi_at_call 44; refine (CallsIn.inRound l (callsIn_wide.2 HM.out)).mono ?_; rintro e X1 ⟨rfl, hb1⟩)
      exact ⟨HS.out, hb1⟩
  case hEK =>
    rintro x args X Y ⟨hx, hy, rfl, h1, h2⟩ hk
    exact ⟨hx, hy, rfl, BerAt.grow hk _ _ h1, BerAt.grow hk _ _ h2⟩
  case done =>
    intro X hr hB hm
    have hq := (hB.block (w.heap.size + 2) (by have := HZ.out; omega)).trans HRC.out
    have c1 := cell_of_blk hq 0
    have f1 := free_of_blk hq 0
    have HR := Lib.hid hr
    have HB := Lib.hid hB
    have HM := Lib.hid hm
    have HQ := Lib.hid hq
    clear hr hB hm hq
    refine wpOf_of ?_
    gi_wp2
    obtain ⟨X3, hX3⟩ : ∃ X3, X.setCell ⟨w.heap.size + 1 + 1, 0, none⟩ (.bool true) = X3 := ⟨_, rfl⟩
    have hm3 : X3.heap[W2.heap.size]? = some (.deferred (some [])) := by rw [← hX3]; exact (Below.heap_setCell _ _ _ _ (by have := HZ.out; show W2.heap.size ≠ w.heap.size + 2; omega)).trans HM.out
    have hc3 : X3.cell? ⟨w.heap.size + 2, 0, none⟩ = some (.bool true) := by rw [← hX3]; exact World.cell?_setCell_same X ⟨w.heap.size + 2, 0, none⟩ (.bool true) (cell_of_blk HQ.out 0)
    have hb3 : Below w.heap.size w X3 := by rw [← hX3]; exact ((HK2.out.below (Nat.le_refl _) (by simp)).trans (HB.out.mono (by have := HZ.out; omega))).setCell (by show w.heap.size ≤ w.heap.size + 2; omega) _
    have hkp : Kept w.heap.size X3 (X3.putObj W2.heap.size (.deferred none)) := Kept.put (by have := HZ.out; omega) hm3 rfl
    have hsz := hb3.size
    subst hX3
    refine ⟨by simp, .inl ⟨_, _, rfl, run_takeDeferred hm3, ?_⟩⟩
    refine ⟨_, results_cell1 rfl _ _ rfl (fun w hc => load_var Try.isAgg4 w hc) (hkp.cell hc3), ?_⟩
    rw [← all_like, HR.out]
    exact ⟨rfl, Keeps.of_below (hb3.trans (hkp.below hsz))⟩
  case stop =>
    rintro X hr ⟨hB, hc⟩ hm
    have hkp : Kept w.heap.size X (X.putObj W2.heap.size (.deferred none)) := Kept.put (by have := HZ.out; omega) hm rfl
    gi_wp2
    refine ⟨by simp, .inl ⟨_, _, rfl, run_takeDeferred hm, ?_⟩⟩
    refine ⟨_, results_cell1 rfl _ _ rfl (fun w hc => load_var Try.isAgg4 w hc) (hkp.cell hc), ?_⟩
    rw [← all_like, hr]
    exact ⟨rfl, Keeps.of_below (hB.trans (hkp.below hB.size))⟩
  case pan => exact fun _ _ _ h => h.elim

end Go.Proofs.Ytnengckecooohaa
/- ber: are two values the same? -/
namespace Go.Proofs.Ytnengckecooohaa
open Go.RowKit Go.Shelf
set_option linter.unusedVariables false
set_option linter.unusedSimpArgs false
set_option maxRecDepth 100000

theorem sameL_eq : ∀ (l l' : List BV), l.length = l'.length → (∀ t ∈ l, ∀ y, sameB t y = true → t = y) → sameL l l' = true → l = l'
  | [], [], _, _, _ => rfl
  | [], _ :: _, h, _, _ => by simp at h
  | _ :: _, [], h, _, _ => by simp at h
  | x :: r, y :: s, h, hi, hs => by
    simp only [sameL, Bool.and_eq_true] at hs
    rw [hi x (by simp) y hs.1, sameL_eq r s (by simpa using h) (fun t ht => hi t (by simp [ht])) hs.2]
theorem sameB_eq (t y : BV) (h : sameB t y = true) : t = y := by
  induction t using BV.ind generalizing y with
  | h c n k b l ih =>
    obtain ⟨c', n', k', b', l'⟩ := y
    unfold sameB at h
    simp only [Bool.and_eq_true, beq_iff_eq] at h
    obtain ⟨⟨rfl, rfl, rfl, rfl, h5⟩, h6⟩ := h
    rw [sameL_eq l l' h5 ih h6]
theorem sameB_comm (s t : BV) : sameB s t = sameB t s := by
  rw [Bool.eq_iff_iff]
  exact ⟨fun h => by rw [sameB_eq s t h]; exact sameB_refl t, fun h => by rw [sameB_eq t s h]; exact sameB_refl s⟩

/-- The end: what both Encodes told, and whether the values are the same. -/
def EndQ (q : Bool) (u v : Option (List UInt8)) : Prop := ∀ xs ys, u = some xs → v = some ys → (xs == ys) = q

set_option maxHeartbeats 4000000 in
theorem bersame_any (t t' : BV) (h h' : BH) (w : World) (ht : BerAt w t h) (ht' : BerAt w t' h') :
    Calls Try.prog 7 #[h.val, h'.val] w fun e w' => e = .returned (.bool true) ∧ Below w.heap.size w w' := by
  have HT := Lib.hid ht
  have HT' := Lib.hid ht'
  obtain ⟨c, n, k, A, la, ca, B, lb, cb⟩ := h
  obtain ⟨c', n', k', A', la', ca', B', lb', cb'⟩ := h'
  clear ht ht'
  obtain ⟨W0, hW0⟩ : ∃ W0, (w.alloc (.cells #[.int .u8 (c : Int), .int .u8 (n : Int), .bool k, .slice A la ca, .slice B lb cb] 25)).alloc (.cells #[.int .u8 (c' : Int), .int .u8 (n' : Int), .bool k', .slice A' la' ca', .slice B' lb' cb'] 25) = W0 := ⟨_, rfl⟩
  have hb := two_boxes w (.cells #[.int .u8 (c : Int), .int .u8 (n : Int), .bool k, .slice A la ca, .slice B lb cb] 25) (.cells #[.int .u8 (c' : Int), .int .u8 (n' : Int), .bool k', .slice A' la' ca', .slice B' lb' cb'] 25)
  rw [hW0] at hb
  have hk0 : Keeps [] w W0 := by rw [← hW0]; exact ((Keeps.refl [] w).alloc _).alloc _
  have HK0 := Lib.hid hk0
  have HF := Lib.hid (fun X (hk : Keeps [] W0 X) => And.intro (five_facts (blk_keep hb.1 hk (by simp))).1 (five_facts (blk_keep hb.2 hk (by simp))).1)
  have HA : Hid (∀ X, Keeps [] W0 X → BerAt X t ⟨c, n, k, A, la, ca, B, lb, cb⟩) := fun X hk => BerAt.grow (hk0.trans' hk) t _ HT.out
  have HB : Hid (∀ X, Keeps [] W0 X → BerAt X t' ⟨c', n', k', A', la', ca', B', lb', cb'⟩) := fun X hk => BerAt.grow (hk0.trans' hk) t' _ HT'.out
  have HLA := Lib.hid (fun X hk => left_is t 1 1000 ⟨c, n, k, A, la, ca, B, lb, cb⟩ X (by decide) (by decide) (by decide) (HA.out X hk))
  have HLB := Lib.hid (fun X hk => left_is t' 1 1000 ⟨c', n', k', A', la', ca', B', lb', cb'⟩ X (by decide) (by decide) (by decide) (HB.out X hk))
  have hfa := fun hz => light_fits t 1000 (by decide) hz
  have hfb := fun hz => light_fits t' 1000 (by decide) hz
  obtain ⟨z, hz⟩ : ∃ z, leftB 1 1000 t = z := ⟨_, rfl⟩
  obtain ⟨u, hu⟩ : ∃ u, leftB 1 1000 t' = u := ⟨_, rfl⟩
  rw [hz] at HLA hfa
  rw [hu] at HLB hfb
  have HFA := Lib.hid hfa
  have HFB := Lib.hid hfb
  have HW0 := Lib.hid hW0
  clear hb hk0 hfa hfb hz hu hW0
  unfold BH.val at *
  obtain ⟨⟨y0, y1, y2, y3, y4⟩, ⟨z0, z1, z2, z3, z4⟩⟩ := HF.out W0 (Keeps.refl _ _)
  rw [← HW0.out] at y0 y1 y2 y3 y4 z0 z1 z2 z3 z4
  rcases Int.lt_or_le z 0 with h0 | h0
  · go_enter Try.func7, Try.ntmps7
    go_wp2_with fail
    rw [HW0.out]
    refine (HLA.out _ (Keeps.refl _ _)).mono ?_
    rintro e w1 ⟨rfl, hk1⟩
    have HK1 := Lib.hid (HK0.out.trans' hk1)
    clear hk1
    go_wp2_with fail
    refine (known5_any _).mono ?_
    rintro e w2 ⟨rfl, hk2⟩
    have HK2 := Lib.hid (HK1.out.trans' hk2)
    clear hk2
    go_wp2_with fail
    go_ret
    exact ⟨rfl, below_keeps HK2.out⟩
  have hz0 : ¬ z < 0 := by omega
  rcases Int.lt_or_le u 0 with h1 | h1
  · go_enter Try.func7, Try.ntmps7
    go_wp2_with fail
    rw [HW0.out]
    refine (HLA.out _ (Keeps.refl _ _)).mono ?_
    rintro e w1 ⟨rfl, hk1⟩
    have HK1 := Lib.hid hk1
    clear y0 y1 y2 y3 y4 z0 z1 z2 z3 z4
    obtain ⟨⟨y0, y1, y2, y3, y4⟩, ⟨z0, z1, z2, z3, z4⟩⟩ := HF.out w1 hk1
    clear hk1
    go_wp2_with fail
    refine (HLB.out _ HK1.out).mono ?_
    rintro e w2 ⟨rfl, hk2⟩
    have HK2 := Lib.hid (HK0.out.trans' (HK1.out.trans' hk2))
    clear hk2
    go_wp2_with fail
    refine (known5_any _).mono ?_
    rintro e w3 ⟨rfl, hk3⟩
    have HK3 := Lib.hid (HK2.out.trans' hk3)
    clear hk3
    go_wp2_with fail
    go_ret
    exact ⟨rfl, below_keeps HK3.out⟩
  have hu0 : ¬ u < 0 := by omega
  have fa := HFA.out h0
  have fb := HFB.out h1
  have HEA := Lib.hid (fun X hk => encode_is t ⟨c, n, k, A, la, ca, B, lb, cb⟩ X (HA.out X hk) fa.1 fa.2)
  have HEB := Lib.hid (fun X hk => encode_is t' ⟨c', n', k', A', la', ca', B', lb', cb'⟩ X (HB.out X hk) fb.1 fb.2)
  have HRS := Lib.hid (fun X hk => rsame_is t t' ⟨c, n, k, A, la, ca, B, lb, cb⟩ ⟨c', n', k', A', la', ca', B', lb', cb'⟩ X (HA.out X hk) (HB.out X hk))
  have HS1 := Lib.hid (fun X hk => bsame_is t t' ⟨c, n, k, A, la, ca, B, lb, cb⟩ ⟨c', n', k', A', la', ca', B', lb', cb'⟩ X (HA.out X hk) (HB.out X hk) fa.1)
  have HS2 := Lib.hid (fun X hk => bsame_is t' t ⟨c', n', k', A', la', ca', B', lb', cb'⟩ ⟨c, n, k, A, la, ca, B, lb, cb⟩ X (HB.out X hk) (HA.out X hk) fb.1)
  have HS3 := Lib.hid (fun X hk => bsame_is t t ⟨c, n, k, A, la, ca, B, lb, cb⟩ ⟨c, n, k, A, la, ca, B, lb, cb⟩ X (HA.out X hk) (HA.out X hk) fa.1)
  rw [sameB_comm t' t] at HS2
  rw [sameB_refl] at HS3
  have HQ : Hid (∀ xs ys, encB t = .inr xs → encB t' = .inr ys → (xs == ys) = sameB t t') := fun xs ys e1 e2 => by
    rw [Bool.eq_iff_iff, beq_iff_eq]
    constructor
    · rintro rfl
      rw [enc_inj e1 e2]
      exact sameB_refl _
    · intro hs
      rw [sameB_eq t t' hs, e2] at e1
      injection e1 with e1
      exact e1.symm
  obtain ⟨q, hq⟩ : ∃ q, sameB t t' = q := ⟨_, rfl⟩
  rw [hq] at HRS HS1 HS2 HQ
  unfold BH.val at *
  clear fa fb h0 h1 hq
  go_enter Try.func7, Try.ntmps7
  go_wp2_with fail
  rw [HW0.out]
  refine (HLA.out _ (Keeps.refl _ _)).mono ?_
  rintro e w1 ⟨rfl, hk1⟩
  have HK1 := Lib.hid (hk1)
  clear y0 y1 y2 y3 y4 z0 z1 z2 z3 z4
  obtain ⟨⟨y0, y1, y2, y3, y4⟩, ⟨z0, z1, z2, z3, z4⟩⟩ := HF.out w1 HK1.out
  clear hk1
  go_wp2_with fail
  refine (HLB.out _ HK1.out).mono ?_
  rintro e w2 ⟨rfl, hk2⟩
  have HK2 := Lib.hid (HK1.out.trans' hk2)
  clear y0 y1 y2 y3 y4 z0 z1 z2 z3 z4
  obtain ⟨⟨y0, y1, y2, y3, y4⟩, ⟨z0, z1, z2, z3, z4⟩⟩ := HF.out w2 HK2.out
  clear hk2
  go_wp2_with fail
  refine (HRS.out _ HK2.out).mono ?_
  rintro e w3 ⟨rfl, hk3⟩
  cases q
  all_goals (
    have HK3 := Lib.hid (HK2.out.trans' hk3)
    clear y0 y1 y2 y3 y4 z0 z1 z2 z3 z4
    obtain ⟨⟨y0, y1, y2, y3, y4⟩, ⟨z0, z1, z2, z3, z4⟩⟩ := HF.out w3 HK3.out
    clear hk3
    go_wp2_with fail
    refine (HS1.out _ HK3.out).mono ?_
    rintro e w4 ⟨rfl, hk4⟩
    have HK4 := Lib.hid (HK3.out.trans' hk4)
    clear y0 y1 y2 y3 y4 z0 z1 z2 z3 z4
    obtain ⟨⟨y0, y1, y2, y3, y4⟩, ⟨z0, z1, z2, z3, z4⟩⟩ := HF.out w4 HK4.out
    clear hk4
    go_wp2_with fail
    refine (HS2.out _ HK4.out).mono ?_
    rintro e w5 ⟨rfl, hk5⟩
    have HK5 := Lib.hid (HK4.out.trans' hk5)
    clear y0 y1 y2 y3 y4 z0 z1 z2 z3 z4
    obtain ⟨⟨y0, y1, y2, y3, y4⟩, ⟨z0, z1, z2, z3, z4⟩⟩ := HF.out w5 HK5.out
    clear hk5
    go_wp2_with fail
    refine (HS3.out _ HK5.out).mono ?_
    rintro e w6 ⟨rfl, hk6⟩
    have HK6 := Lib.hid (HK5.out.trans' hk6)
    clear y0 y1 y2 y3 y4 z0 z1 z2 z3 z4
    obtain ⟨⟨y0, y1, y2, y3, y4⟩, ⟨z0, z1, z2, z3, z4⟩⟩ := HF.out w6 HK6.out
    clear hk6
    go_wp2_with fail
    refine (HEA.out _ HK6.out).mono ?_
    rintro e w7 ⟨⟨xs, D, d, he, rfl, hb7⟩ | ⟨no, he, rfl⟩, hk7⟩
    · have HE := Lib.hid he
      have HB7 := Lib.hid hb7
      have HKB := Lib.hid hk7
      clear he hb7
      have HK7 := Lib.hid (HK6.out.trans' hk7)
      clear y0 y1 y2 y3 y4 z0 z1 z2 z3 z4
      obtain ⟨⟨y0, y1, y2, y3, y4⟩, ⟨z0, z1, z2, z3, z4⟩⟩ := HF.out w7 HK7.out
      clear hk7
      go_wp2_with fail
      refine (HEB.out _ HK7.out).mono ?_
      rintro e w8 ⟨⟨ys, D', d', he, rfl, hb8⟩ | ⟨no, he, rfl⟩, hk8⟩
      · have hxy := HQ.out xs ys HE.out he
        have hc7 := conv_bytes (HB7.out.grow hk8)
        have hc8 := conv_bytes hb8
        have HK8 := Lib.hid (HK0.out.trans' (HK7.out.trans' hk8))
        clear hk8 he hb8 y0 y1 y2 y3 y4 z0 z1 z2 z3 z4
        rcases Decidable.em (xs = ys) with hxe | hxe
        · subst hxe
          first
            | (exfalso; simp at hxy; done)
            | (clear hxy
               go_wp2_with fail
               refine (known5_any _).mono ?_
               rintro e w9 ⟨rfl, hk9⟩
               have HK9 := Lib.hid (HK8.out.trans' hk9)
               clear hk9
               go_wp2_with fail
               go_ret
               exact ⟨rfl, below_keeps HK9.out⟩)
        · first
            | (exfalso; exact hxe (eq_of_beq hxy))
            | (clear hxe
               go_wp2_with fail
               refine (known5_any _).mono ?_
               rintro e w9 ⟨rfl, hk9⟩
               have HK9 := Lib.hid (HK8.out.trans' hk9)
               clear hk9
               go_wp2_with fail
               go_ret
               exact ⟨rfl, below_keeps HK9.out⟩)
      · have hno : ¬ no = 0 := by have := encB_no he; omega
        have HK8 := Lib.hid (HK0.out.trans' (HK7.out.trans' hk8))
        clear hk8 he y0 y1 y2 y3 y4 z0 z1 z2 z3 z4
        go_wp2_with fail
        refine (known5_any _).mono ?_
        rintro e w9 ⟨rfl, hk9⟩
        have HK9 := Lib.hid (HK8.out.trans' hk9)
        clear hk9
        go_wp2_with fail
        go_ret
        exact ⟨rfl, below_keeps HK9.out⟩
    · have hno : ¬ no = 0 := by have := encB_no he; omega
      clear he
      have HK7 := Lib.hid (HK6.out.trans' hk7)
      clear y0 y1 y2 y3 y4 z0 z1 z2 z3 z4
      obtain ⟨⟨y0, y1, y2, y3, y4⟩, ⟨z0, z1, z2, z3, z4⟩⟩ := HF.out w7 HK7.out
      clear hk7
      go_wp2_with fail
      refine (HEB.out _ HK7.out).mono ?_
      rintro e w8 ⟨⟨ys, D', d', he, rfl, hb8⟩ | ⟨no', he, rfl⟩, hk8⟩
      all_goals (
        have HK8 := Lib.hid (HK0.out.trans' (HK7.out.trans' hk8))
        clear hk8 he y0 y1 y2 y3 y4 z0 z1 z2 z3 z4
        go_wp2_with fail
        refine (known5_any _).mono ?_
        rintro e w9 ⟨rfl, hk9⟩
        have HK9 := Lib.hid (HK8.out.trans' hk9)
        clear hk9
        go_wp2_with fail
        go_ret
        exact ⟨rfl, below_keeps HK9.out⟩))

end Go.Proofs.Ytnengckecooohaa
