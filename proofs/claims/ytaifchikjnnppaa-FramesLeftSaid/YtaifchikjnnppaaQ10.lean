/- FramesBehind, walked. -/
import Derived.Test.YtaifchikjnnppaaQ9
namespace Go.Proofs.Ytaifchikjnnppaa
open Go.RowKit Go.Shelf
set_option linter.unusedVariables false
attribute [local go_sem] Oper.semAt_some

theorem recs_len (xs : List UInt8) : (recs xs).length ≤ xs.length := by
  have h1 := offs_le xs (recs xs).length
  rw [List.take_length] at h1
  have h2 : ∀ l : List (List UInt8), l.length ≤ offs l := fun l => by
    induction l with
    | nil => simp [offs]
    | cons r l ih => rw [offs_cons]; simp; omega
  have := h2 (recs xs)
  omega

set_option maxRecDepth 100000 in
set_option maxHeartbeats 2000000 in
theorem behind_in (A B : Option Addr) (len c m d : Nat) (l : List Part) (y : List UInt8) (w : World) (hl : PartsAt w A len l) (hy : BytesAt w (.slice B m d) y) (hym : y.length = m) (hm : len ≤ 9223372036854775807) (hfe : fewR l = true) (h3 : m ≤ 300) : Calls Try.prog 8 #[.slice A len c, .slice B m d] w fun e w' => e = .returned (.bool true) ∧ Keeps [] w w' := by
  obtain ⟨hl12, h500⟩ := fewR_true hfe
  have hlen := hl.len
  obtain ⟨iu, hiu, hzu0, hzu1, hzu2⟩ := info_parts u8_of
  have HF := Lib.hid (fun w1 hk => few3_is A len c l w1 (hl.keep hk) hm)
  rw [hfe] at HF
  have H500 := Lib.hid h500
  have HL := Lib.hid hl
  have HY := Lib.hid hy
  have HYM := Lib.hid hym
  have b0 := (Boxed.new w 25 (.slice A len c)).alloc (.cells #[.bool false] 4)
  have b1 := Boxed.new (w.alloc (.cells #[.slice A len c] 25)) 4 (.bool false)
  rw [World.size_alloc] at b1
  obtain ⟨W2, hW2⟩ : ∃ W2, (w.alloc (.cells #[.slice A len c] 25)).alloc (.cells #[.bool false] 4) = W2 := ⟨_, rfl⟩
  have hz2 : W2.heap.size = w.heap.size + 2 := by rw [← hW2]; simp
  have hk2 : Keeps [] w W2 := by rw [← hW2]; exact ((Keeps.refl [] w).alloc _).alloc _
  rw [hW2] at b0 b1
  have HB0 := Lib.hid b0
  have HB1 := Lib.hid b1
  have HK2 := Lib.hid hk2
  have HS0 : Hid (Bld W2 W2 (.slice none 0 0) l 0) := ⟨by simpa [rowOf, offs, joinF] using World.ownsRow_nil W2 W2.heap.size 5 1, Keeps.refl _ _⟩
  refine (callsIn_wide (n := 3)).1 ?_
  refine callsIn_of_wp_marks Try.func8 rfl trivial ?_ rfl
  simp only [Try.ntmps8, List.size_toArray, List.length_cons, List.length_nil, Nat.reduceAdd, Nat.reduceSub, Array.replicate_succ, Array.replicate_zero, List.push_toArray, List.append_toArray, List.nil_append, List.cons_append]
  refine wpIn_wide.2 ?_
  clear hl hy hym h500 hfe hk2
  have c0 := b0.cell
  clear b0 b1
  go_wp2_with (go_at_call 12; refine (HF.out _ HK2.out).mono ?_; rintro e w2 ⟨rfl, rfl⟩)
  go_loopw [5, 6] (fun v i wr => ∃ j : Nat, i = .int .i64 (j : Int) ∧ j ≤ len ∧ Hid (Bld W2 wr v l j)) (fun _ i _ => len - (intOf i).toNat)
  case atStart => exact ⟨0, rfl, Nat.zero_le _, HS0⟩
  case round =>
    obtain ⟨j, rfl, hj, HS⟩ := hrel
    have bx := boxed_keeps HB0.out HS.out.keep
    have cx := bx.cell
    have hof := offs_few H500.out j
    have hos := HS.out.own
    obtain ⟨VA, vc, rfl⟩ := own_slice hos
    clear bx hos
    by_cases hlt : j < len
    · have hx : l[j]? = some (l[j]'(by omega)) := List.getElem?_eq_getElem (by omega)
      have htk : l.take (j + 1) = l.take j ++ [l[j]'(by omega)] := List.take_succ_eq_append_getElem (by omega)
      have hx5 := H500.out _ (List.getElem_mem (show j < l.length by omega))
      obtain ⟨b, o, rfl, cr, hb, hxm⟩ := (HL.out.keep (HK2.out.trans' HS.out.keep)).at_ j _ hx
      generalize l[j]'(by omega) = x at *
      have HRF := Lib.hid (rframe x.A x.bs.length x.c x.bs wr rfl hb (by omega))
      have HTK := Lib.hid htk
      have lf : ((frameOf x.bs).map bv).length = x.bs.length + 12 := by simp [frameOf_len]
      have LF := Lib.hid lf
      have hzr := HS.out.keep.size
      clear hb hx htk lf
      go_wp2_with (first
        | (go_at_call 14; refine HRF.out.mono ?_; rintro e w1 ⟨RA, rc, rfl, ro, hk1⟩; have HRO := Lib.hid ro; have HK1 := Lib.hid hk1; have HO1 := Lib.hid (own_keep HS.out.own hk1 (by simp)); have hz1 := hk1.size; clear ro hk1)
        | (at_builtin; refine wpList_append_opt rfl (.tmp 27) (.tmp 32) 22 rfl W2.heap.size 5 iu _ 1 1 Try.underlying22 hiu hzu0 hzu1 hzu2 rfl (by decide) (.slice VA (offs (rowOf (l.take j))) vc) (offs (rowOf (l.take j))) ((joinF (rowOf (l.take j))).map bv) rfl HO1.out RA (x.bs.length + 12) rc ((frameOf x.bs).map bv) rfl (by rw [LF.out, Nat.mul_one]) (Src.of_own HRO.out) bvs_one (by unfold maxLen; omega) (by omega) (by omega) ?_; intro v2 w2 ho2 hg2 hs2; have HN := Lib.hid (HS.out.next HTK.out HK1.out ho2 hg2); clear ho2 hg2 hs2))
      go_roundw
      case rel => exact ⟨j + 1, by go_num, by omega, HN⟩
      case measure => simp [intOf]; omega
    · obtain rfl : j = len := by omega
      have htl : l.take j = l := List.take_of_length_le (by omega)
      rw [htl] at HS hof
      have hN : offs (rowOf l) ≤ 6144 := by omega
      obtain ⟨N, hNd⟩ : ∃ N, offs (rowOf l) = N := ⟨_, rfl⟩
      have hjl : (joinF (rowOf l)).length = N := by rw [joinF_len, hNd]
      have O0 := HS.out.own
      rw [htl, hNd] at O0
      rw [htl, hNd]
      have hz0 := HS.out.keep.size
      have K0 := Lib.hid (HK2.out.trans' HS.out.keep)
      have BI0 := Lib.hid (boxed_keeps HB0.out HS.out.keep)
      have BR0 := Lib.hid (boxed_keeps HB1.out HS.out.keep)
      have HO0 := Lib.hid O0
      have SY := Lib.hid (Src.of_bytes (HY.out.grow K0.out))
      have lY : (y.map bv).length = m := by simp [HYM.out]
      have h3r := recs_joinF (rowOf l) y (rowOf_short H500.out)
      have hge : N ≤ offs (recs (joinF (rowOf l) ++ y)) := by
        rw [h3r, ← hNd]
        simp [offs]
      have HRR := Lib.hid h3r
      have hxl : (joinF (rowOf l) ++ y).length = N + m := by rw [List.length_append, hjl, HYM.out]
      have HXL := Lib.hid hxl
      clear h3r O0 hxl hjl
      go_wp2_with (first
        | (at_builtin; refine wpList_append_opt rfl (.tmp 36) (.tmp 37) 22 rfl W2.heap.size 5 iu _ 1 1 Try.underlying22 hiu hzu0 hzu1 hzu2 rfl (by decide) (.slice VA N vc) N ((joinF (rowOf l)).map bv) rfl HO0.out B m d (y.map bv) rfl (by rw [lY, Nat.mul_one]) SY.out bvs_one (by unfold maxLen; omega) (by omega) (by omega) ?_; intro v2 w2 ho2 hg2 hs2; obtain ⟨A2, c2, hv2⟩ := own_slice ho2; subst hv2; rw [← List.map_append] at ho2; have hb2 := (own_bytes ho2 HXL.out).1; have k2 := keeps_own HO0.out HS.out.keep hg2; have HBX := Lib.hid hb2; have BI2 := Lib.hid (boxed_keeps HB0.out k2); have BR2 := Lib.hid (boxed_keeps HB1.out k2); have K2 := Lib.hid (HK2.out.trans' k2); clear ho2 hg2 hs2 hb2 k2)
        | (go_at_call 17; refine (all_is A2 (N + m) c2 _ w2 HXL.out HBX.out (by omega)).mono ?_; rintro e w3 ⟨g3, B3, d3, rfl, hr3, hg3, ho3, hk3⟩; have HR3 := Lib.hid hr3; have HO3 := Lib.hid ho3; have HK3 := Lib.hid hk3; have hnn := all_not_nil g3; clear hr3 ho3 hk3)
        | (go_at_call 16; refine (end_is A2 (N + m) c2 _ w3 HXL.out (HBX.out.grow HK3.out)).mono ?_; rintro e w4 ⟨rfl, hk4⟩; have HK4 := Lib.hid hk4; clear hk4 hnn))
      obtain ⟨W5, hW5⟩ : ∃ W5, w4.alloc (.cells #[.int .i64 0] 3) = W5 := ⟨_, rfl⟩
      have k24 := HK3.out.trans' HK4.out
      have k5 : Keeps [] w4 W5 := by rw [← hW5]; exact (Keeps.refl [] w4).alloc _
      have k25 := k24.trans' k5
      have bi : Boxed W5 w4.heap.size 3 (.int .i64 0) := by rw [← hW5]; exact Boxed.new w4 3 _
      have hz5 : W5.heap.size = w4.heap.size + 1 := by rw [← hW5]; simp
      have I0 : Boxed W5 w4.heap.size 3 (.int .i64 0) ∧ Boxed W5 w.heap.size 25 (.slice A j c) ∧ Boxed W5 (w.heap.size + 1) 4 (.bool false) := ⟨bi, boxed_keeps BI2.out k25, boxed_keeps BR2.out k25⟩
      have D5 : RestD g3 B3 (N + m) d3 (joinF (rowOf l) ++ y) W5 := (RestD.under 0).keeps HR3.out (HK4.out.trans' k5)
      have K5 := Lib.hid (K2.out.trans' k25)
      have hz24 := k24.size
      have hz22 := BR2.out.lt
      have hg3' := (HR3.out.1)
      have hzg : g3 < w3.heap.size := lt_of_cell hg3'
      have hz34 := HK4.out.size
      have hz23 := HK3.out.size
      rw [hW5]
      have HD5 := Lib.hid D5
      have HI0 := Lib.hid I0
      clear hg3' k24 k5 k25 bi D5 I0
      refine (wpIn_wide (n := 3)).1 ?_
      refine range_seqs (n := 3) (gf := 28) (lb := #[.pointer (some ⟨g3, 0, none⟩)]) rfl (enters_of Try.func28 (by kernel_rfl) rfl) (all_seq g3 (N + m) d3 B3 (joinF (rowOf l) ++ y) HXL.out) (fun k args X h => by obtain ⟨v, r, rfl, _⟩ := h; rfl) (RestD.under _) HD5.out
        (fun k X => (Boxed X w4.heap.size 3 (.int .i64 (k : Nat)) ∧ Boxed X w.heap.size 25 (.slice A j c) ∧ Boxed X (w.heap.size + 1) 4 (.bool false)) ∧ Below w.heap.size w X)
        (fun _ _ _ => False)
        (fun k X Y h hb => ⟨⟨boxed_under X Y h.1.1 hb, boxed_under X Y h.1.2.1 hb, boxed_under X Y h.1.2.2 hb⟩, h.2.trans ((hb.mono K5.out.size).below h.2.size)⟩)
        (fun _ _ X Y h hb => h)
        ⟨HI0.out, K5.out.below (Nat.le_refl _) (by simp)⟩
        (fun args => { tmps := #[Value.slice A j c, Value.slice B m d, Value.pointer (some { block := w.heap.size, off := 0 }), undef, Value.pointer (some { block := w.heap.size + 1, off := 0 }), Value.slice A2 (N + m) c2, Value.int IntKind.i64 ↑j, Value.int IntKind.i64 ↑N, Value.func (Fn.func 28) #[] #[Value.pointer (some { block := g3, off := 0 })], Value.pointer (some { block := w4.heap.size, off := 0 }), undef, args.getD 1 undef, Value.slice A j c, Value.bool true, Value.bool false, Value.bool false, Value.slice B m d, Value.int IntKind.i64 ↑m, Value.bool (decide ((300 : Int) < (m : Int))), Value.bool (decide ((300 : Int) < (m : Int))), undef, Value.int IntKind.i64 ↑j, Value.slice A j c, Value.int IntKind.i64 ↑j, Value.bool false, u25, u26, u27, u28, u29, u30, u31, u32, u33, Value.slice VA N vc, Value.int IntKind.i64 ↑N, Value.slice VA N vc, Value.slice B m d, Value.slice A2 (N + m) c2, Value.slice A2 (N + m) c2, Value.func (Fn.func 28) #[] #[Value.pointer (some { block := g3, off := 0 })], Value.func (Fn.func 28) #[] #[Value.pointer (some { block := g3, off := 0 })], Value.bool false, Value.bool false, Value.slice A2 (N + m) c2, Value.int IntKind.i64 ↑(offs (recs (joinF (rowOf l) ++ y))), Value.int IntKind.i64 ↑N, Value.bool false, Value.bool false, Value.func (Fn.func 28) #[] #[Value.pointer (some { block := g3, off := 0 })], args.getD 0 undef, args.getD 1 undef, undef, undef, undef, undef, undef, undef, undef, undef, undef, undef, undef, undef, undef, undef, undef, undef, undef, undef, undef, undef, undef, undef, undef], defers := [] })
        (fun k args A l o h _ hl => recE_put k args A l o h hl) ?assign ?body ?done ?stop
      case assign =>
        rintro lp k args W K ⟨v, r, rfl, hr, hv⟩ hK
        gi_wp2
        exact hK
      case body =>
        rintro lp k args X hk ⟨⟨x1, x2, x3⟩, hbX⟩ hD2 hzX ⟨v, r, rfl, hr, hv⟩
        have hv' := hv
        obtain ⟨A', c', rfl, _, _, _⟩ := hv'
        have k1 := x1.cell
        have k2 := x2.cell
        have f1 := x1.frozen
        have s1 := fun nq => conv_bytes (hv.grow (w' := X.drewN nq) ((Keeps.refl [] X).drewN nq))
        have HX1 := Lib.hid x1
        have HX2 := Lib.hid x2
        have HX3 := Lib.hid x3
        have HBX := Lib.hid hbX
        have HD2 := Lib.hid hD2
        have hmx : Try.prog.follows .mixedOrders = true := by kernel_rfl
        have FIN : Hid (∀ nq, k < (recs (joinF (rowOf l) ++ y)).length ∧ ((Boxed ((X.drewN nq).setCell ⟨w4.heap.size, 0, none⟩ (.int .i64 ((k : Int) + 1))) w4.heap.size 3 (.int .i64 ((k + 1 : Nat) : Int)) ∧ Boxed ((X.drewN nq).setCell ⟨w4.heap.size, 0, none⟩ (.int .i64 ((k : Int) + 1))) w.heap.size 25 (.slice A j c) ∧ Boxed ((X.drewN nq).setCell ⟨w4.heap.size, 0, none⟩ (.int .i64 ((k : Int) + 1))) (w.heap.size + 1) 4 (.bool false)) ∧ Below w.heap.size w ((X.drewN nq).setCell ⟨w4.heap.size, 0, none⟩ (.int .i64 ((k : Int) + 1)))) ∧ RestD g3 B3 (N + m) d3 (joinF (rowOf l) ++ y) ((X.drewN nq).setCell ⟨w4.heap.size, 0, none⟩ (.int .i64 ((k : Int) + 1))) ∧ Over W5.heap.size X ((X.drewN nq).setCell ⟨w4.heap.size, 0, none⟩ (.int .i64 ((k : Int) + 1)))) := fun nq => by
          have kdr : Keeps [] X (X.drewN nq) := (Keeps.refl [] X).drewN nq
          have hcast : (.int .i64 ((k : Int) + 1) : Value) = .int .i64 ((k + 1 : Nat) : Int) := by simp
          have kset : Keeps [w4.heap.size] (X.drewN nq) ((X.drewN nq).setCell ⟨w4.heap.size, 0, none⟩ (.int .i64 ((k : Int) + 1))) := (Keeps.refl _ _).setCell (.inl (by simp)) _
          have hbs := below_set (n := w.heap.size) (b := w4.heap.size) (X.drewN nq) (.int .i64 ((k : Int) + 1)) (by omega)
          refine ⟨hk, ⟨⟨?_, ?_, ?_⟩, (HBX.out.trans (kdr.below HBX.out.size (by simp))).trans hbs⟩, ⟨?_, ?_⟩, (Over.of_keeps kdr).trans (over_set _ _ (by omega))⟩
          · rw [← hcast]
            exact (boxed_keeps HX1.out kdr).set _
          · exact (boxed_keeps HX2.out kdr).other (by omega) _
          · exact (boxed_keeps HX3.out kdr).other (by omega) _
          · exact (World.cell?_setCell_far _ ⟨w4.heap.size, 0, none⟩ ⟨g3, 0, none⟩ _ (by show w4.heap.size ≠ g3; omega)).trans HD2.out.1
          · rcases Nat.eq_zero_or_pos (joinF (rowOf l) ++ y).length with h0 | h0
            · exact HD2.out.2.none h0
            · exact (HD2.out.2.grow kdr).keep kset (fun b hb hm => by have := HR3.out.2.lt h0 b hb; simp at hm; omega)
        have HPX := Lib.hid (HL.out.keep (Keeps.of_below hbX))
        clear hv x1 x2 x3 hbX hD2
        have hkb : k < 100000 := by
          have h1 := recs_len (joinF (rowOf l) ++ y)
          have h2 := HXL.out
          omega
        by_cases hkl : k < j
        · have hx : l[k]? = some (l[k]'(by omega)) := List.getElem?_eq_getElem (by omega)
          obtain ⟨b, o, rfl, cr, hb, hxm⟩ := HPX.out.at_ k _ hx
          have hrx : r = (l[k]'(by omega)).bs := by
            rw [HRR.out, List.getElem?_append_left (by simp [rowOf]; omega), rowOf_get hx] at hr
            exact (Option.some.inj hr).symm
          generalize l[k]'(by omega) = x at *
          subst hrx
          have s2 := fun nq => conv_bytes (hb.grow (w' := X.drewN nq) ((Keeps.refl [] X).drewN nq))
          have hd : decide (k < j) = true := decide_eq_true hkl
          have hkz : (k : Int) < (j : Int) := by omega
          clear hb hx
          gi_wp2
          refine quiet_in_round hmx (by kernel_rfl) (by kernel_rfl) (fun ⟨_, _, h⟩ => h) ?_
          repeat (go_big_quiet_step (fail))
          refine wpQuiet_nil ?_
          rintro _ ⟨nq, rfl⟩
          gi_wp2
          exact FIN.out nq
        · have hd : decide (k < j) = false := decide_eq_false hkl
          gi_wp2
          refine quiet_in_round hmx (by kernel_rfl) (by kernel_rfl) (fun ⟨_, _, h⟩ => h) ?_
          repeat (go_big_quiet_step (fail))
          refine wpQuiet_nil ?_
          rintro _ ⟨nq, rfl⟩
          gi_wp2
          exact FIN.out nq
      case done =>
        rintro X hNM ⟨⟨x1, x2, x3⟩, hbX⟩ hK
        have k1 := x1.cell
        have k2 := x2.cell
        have hjr : j ≤ (recs (joinF (rowOf l) ++ y)).length := by
          rw [HRR.out, List.length_append]
          simp [rowOf]
          omega
        have HX3 := Lib.hid x3
        have HBX := Lib.hid hbX
        have HKK := Lib.hid hK
        clear x1 x2 x3 hbX hK
        go_wp2_with fail
        refine (known3_any X).mono ?_
        rintro e w7 ⟨rfl, hk7⟩
        have HK7 := Lib.hid hk7
        have b7 := boxed_keeps HX3.out hk7
        have c7 := b7.cell
        have f7 := b7.frozen
        have HB7 := Lib.hid b7
        clear hk7 b7
        go_wp2_with fail
        have y7 := HB7.out.set (.bool true)
        have hd7 : (w7.setCell ⟨w.heap.size + 1, 0, none⟩ (.bool true)).heap[W5.heap.size]? = some (.deferred (some [])) := (Below.heap_setCell w7 ⟨w.heap.size + 1, 0, none⟩ _ _ (by show W5.heap.size ≠ w.heap.size + 1; omega)).trans ((HK7.out.block _ (Array.getElem?_eq_some_iff.1 HKK.out).1 (by simp)).trans HKK.out)
        have hkp : Kept w.heap.size (w7.setCell ⟨w.heap.size + 1, 0, none⟩ (.bool true)) ((w7.setCell ⟨w.heap.size + 1, 0, none⟩ (.bool true)).putObj W5.heap.size (.deferred none)) := Kept.put (by omega) hd7 rfl
        have hz7 := HBX.out.size
        have hz8 := HK7.out.size
        have hbs := below_set (n := w.heap.size) (b := w.heap.size + 1) w7 (.bool true) (by omega)
        rw [hz5] at hd7 hkp
        refine ⟨by simp, .inl ⟨_, _, rfl, run_takeDeferred hd7, ?_⟩⟩
        refine ⟨_, results_cell1 rfl _ _ rfl (fun w hc => load_var Try.isAgg4 w hc) (hkp.cell y7.cell), ?_⟩
        exact ⟨rfl, Keeps.of_below (((HBX.out.trans (HK7.out.below hz7 (by simp))).trans hbs).trans (hkp.below (by have := hbs.size; omega)))⟩
      case stop =>
        rintro cd k X hk h hK
        exact h.elim

theorem behind_row (A : Option Addr) (len c : Nat) (l : List Part) (B : Option Addr) (m d : Nat) (y : List UInt8) (w : World) (hl : PartsAt w A len l) (h1 : len ≤ c) (h2 : c ≤ 9223372036854775807) (hy : BytesAt w (.slice B m d) y) (hym : y.length = m) (h3 : m ≤ 9223372036854775807) : Calls Try.prog 8 #[.slice A len c, .slice B m d] w fun e w' => e = .returned (.bool true) ∧ Below w.heap.size w w' := by
  have h : Calls Try.prog 8 #[.slice A len c, .slice B m d] w fun e w' => e = .returned (.bool true) ∧ Keeps [] w w' := by
    cases hf : fewR l
    · exact behind_out A B len c m d l w hl (by omega) h3 (.inl hf)
    · by_cases h5 : 300 < m
      · exact behind_out A B len c m d l w hl (by omega) h3 (.inr ⟨hf, h5⟩)
      · exact behind_in A B len c m d l y w hl hy hym (by omega) hf (by omega)
  exact h.mono fun e w' ⟨h1, h2⟩ => ⟨h1, h2.below (Nat.le_refl _) (by simp)⟩

end Go.Proofs.Ytaifchikjnnppaa
