/- FramesRow, walked. -/
import Derived.Test.YtkcoiplhopdnlaaQ15
import Derived.Deep.RegionHeld
namespace Go.Proofs.Ytkcoiplhopdnlaa
open Go.RowKit Go.Shelf
set_option linter.unusedVariables false
attribute [local go_sem] Oper.semAt_some

/-- A way out that no panic takes. -/
def NP (Q : Exit → Act → World → Prop) : Exit → Act → World → Prop
  | .panic _, _, _ => False
  | e, a, w => Q e a w
theorem no_panic {P : Program} {c : Code} {Q : Exit → Act → World → Prop} {a : Act} {w : World} (h : c.wp P (NP Q) a w) : c.wp P Q a w := wp_mono h fun e a w he => by
  cases e <;> first | exact he.elim | exact he
theorem np_normal {Q : Exit → Act → World → Prop} {a : Act} {w : World} (h : Q .normal a w) : NP Q .normal a w := h

/-- What the range's rounds leave as it is. -/
structure RowI (w W2 : World) (A : Option Addr) (len c : Nat) (bt : Array Value) (bi : Nat) (v : Value) (n : Nat) (ys : List UInt8) (k : Nat) (X : World) : Prop where
  i : Boxed X bi 3 (.int .i64 (k : Nat))
  l : Boxed X w.heap.size 22 (.slice A len c)
  x : X.heap[w.heap.size + 1]? = some (.cells bt 24 (0, 0))
  r : Boxed X (w.heap.size + 1 + 1) 4 (.bool false)
  own : X.ownsRow W2.heap.size 5 1 v n (ys.map bv)
  bel : Below w.heap.size w X

theorem RowI.under {w W2 : World} {A : Option Addr} {len c : Nat} {bt : Array Value} {bi : Nat} {v : Value} {n m : Nat} {ys : List UInt8} {k : Nat} (hw : w.heap.size ≤ m) : Under m (RowI w W2 A len c bt bi v n ys k) := fun X Y h hb =>
  ⟨boxed_under X Y h.i hb, boxed_under X Y h.l hb, hb.block _ _ h.x (.inr rfl), boxed_under X Y h.r hb, own_kept h.own hb, h.bel.trans ((hb.mono hw).below h.bel.size)⟩

theorem RowI.next {w W2 : World} {A : Option Addr} {len c : Nat} {bt : Array Value} {bi : Nat} {v : Value} {n : Nat} {ys : List UInt8} {k : Nat} {X : World} (h : RowI w W2 A len c bt bi v n ys k X) (hb : w.heap.size + 2 < bi) (hv : ∀ b, v.ownBlock = some b → b ≠ bi) (nq : Nat) :
    RowI w W2 A len c bt bi v n ys (k + 1) ((X.drewN nq).setCell ⟨bi, 0, none⟩ (.int .i64 ((k : Int) + 1))) := by
  have kdr : Keeps [] X (X.drewN nq) := (Keeps.refl [] X).drewN nq
  have hcast : (.int .i64 ((k : Int) + 1) : Value) = .int .i64 ((k + 1 : Nat) : Int) := by simp
  have kset : Keeps [bi] (X.drewN nq) ((X.drewN nq).setCell ⟨bi, 0, none⟩ (.int .i64 ((k : Int) + 1))) := (Keeps.refl _ _).setCell (.inl (by simp)) _
  have hbs := below_set (n := w.heap.size) (b := bi) (X.drewN nq) (.int .i64 ((k : Int) + 1)) (by omega)
  refine ⟨?_, (boxed_keeps h.l kdr).other (by omega) _, blk_keep (blk_keep h.x kdr (by simp)) kset (by simp; omega), (boxed_keeps h.r kdr).other (by omega) _, own_keep (own_keep h.own kdr (by simp)) kset (fun b hb hm => hv b hb (by simpa using hm)), (h.bel.trans (kdr.below h.bel.size (by simp))).trans hbs⟩
  rw [← hcast]
  exact (boxed_keeps h.i kdr).set _

/-- What is left ahead of the last questions. -/
structure RowT (w : World) (mk : Nat) (cut : Int) (v : Value) (zs : List UInt8) (Y : World) : Prop where
  r : Boxed Y (w.heap.size + 1 + 1) 4 (.bool false)
  c : Y.cell? ⟨w.heap.size + 1, 2, none⟩ = some (.int .i64 cut)
  b : BytesAt Y v zs
  m : Y.heap[mk]? = some (.deferred (some []))
  bel : Below w.heap.size w Y

/-- What is left behind them. -/
theorem RowT.over {w Y Z : World} {mk : Nat} {cut : Int} {v : Value} {zs : List UInt8} (h : RowT w mk cut v zs Y) (hk : Keeps [] Y Z) (hm : w.heap.size ≤ mk) (hw : w.heap.size + 1 + 1 ≠ mk) : ∃ U, (Z.setCell ⟨w.heap.size + 1 + 1, 0, none⟩ (.bool true)).heap[mk]? = some (.deferred (some [])) ∧ U = (Z.setCell ⟨w.heap.size + 1 + 1, 0, none⟩ (.bool true)).putObj mk (.deferred none) ∧ Boxed U (w.heap.size + 1 + 1) 4 (.bool true) ∧ Below w.heap.size w U := by
  have b2 := (boxed_keeps h.r hk).set (.bool true)
  have hm' := (hk.block mk (lt_of_heap h.m) (by simp)).trans h.m
  have hd : (Z.setCell ⟨w.heap.size + 1 + 1, 0, none⟩ (.bool true)).heap[mk]? = some (.deferred (some [])) := (Below.heap_setCell Z ⟨w.heap.size + 1 + 1, 0, none⟩ _ _ (by show mk ≠ w.heap.size + 1 + 1; omega)).trans hm'
  have hkp : Kept w.heap.size (Z.setCell ⟨w.heap.size + 1 + 1, 0, none⟩ (.bool true)) ((Z.setCell ⟨w.heap.size + 1 + 1, 0, none⟩ (.bool true)).putObj mk (.deferred none)) := Kept.put hm hd rfl
  have hbs := below_set (n := w.heap.size) (b := w.heap.size + 1 + 1) Z (.bool true) (by omega)
  refine ⟨_, hd, rfl, hkp.block _ _ b2 (.inr rfl), (h.bel.trans ((hk.below h.bel.size (by simp)).trans hbs)).trans (hkp.below (by have := h.bel.size; have := hk.size; have := hbs.size; omega))⟩

set_option maxRecDepth 100000 in
set_option maxHeartbeats 4000000 in
theorem row_in (A : Option Addr) (len c : Nat) (nn at_ by_ cut : Int) (l : List Part) (w : World) (hl : PartsAt w A len l) (hm : len ≤ 9223372036854775807) (hfe : fewR l = true) (hn0 : 0 ≤ nn) (hn1 : nn ≤ 100) (hat : -9223372036854775808 ≤ at_ ∧ at_ ≤ 9223372036854775807) (hby : 0 ≤ by_ ∧ by_ < 256) (hcut : -9223372036854775808 ≤ cut ∧ cut ≤ 9223372036854775807) : Calls Try.prog 3 #[.slice A len c, .int .i64 nn, .agg #[.int .i64 at_, .int .u8 by_, .int .i64 cut]] w fun e w' => e = .returned (.bool true) ∧ Below w.heap.size w w' := by
  obtain ⟨hl12, h500⟩ := fewR_true hfe
  have hlen := hl.len
  obtain ⟨M, rfl⟩ : ∃ M : Nat, nn = (M : Int) := ⟨nn.toNat, by omega⟩
  obtain ⟨iu, hiu, hzu0, hzu1, hzu2⟩ := info_parts u8_of
  have HF := Lib.hid (fun w1 hk => few3_is A len c l w1 (hl.keep hk) hm)
  rw [hfe] at HF
  have H500 := Lib.hid h500
  have HL := Lib.hid hl
  have b0 := ((Boxed.new w 22 (.slice A len c)).alloc (.cells #[.int .i64 at_, .int .u8 by_, .int .i64 cut] 24)).alloc (.cells #[.bool false] 4)
  have b1 : ((w.alloc (.cells #[.slice A len c] 22)).alloc (.cells #[.int .i64 at_, .int .u8 by_, .int .i64 cut] 24)).heap[w.heap.size + 1]? = some (.cells #[.int .i64 at_, .int .u8 by_, .int .i64 cut] 24 (0, 0)) := by
    have := heap_alloc_new (w.alloc (.cells #[.slice A len c] 22)) (.cells #[.int .i64 at_, .int .u8 by_, .int .i64 cut] 24)
    simpa using this
  have b2 := Boxed.new ((w.alloc (.cells #[.slice A len c] 22)).alloc (.cells #[.int .i64 at_, .int .u8 by_, .int .i64 cut] 24)) 4 (.bool false)
  have b1' : (((w.alloc (.cells #[.slice A len c] 22)).alloc (.cells #[.int .i64 at_, .int .u8 by_, .int .i64 cut] 24)).alloc (.cells #[.bool false] 4)).heap[w.heap.size + 1]? = some (.cells #[.int .i64 at_, .int .u8 by_, .int .i64 cut] 24 (0, 0)) := blk_keep b1 ((Keeps.refl [] _).alloc _) (by simp)
  simp only [World.size_alloc] at b2
  obtain ⟨W2, hW2⟩ : ∃ W2, ((w.alloc (.cells #[.slice A len c] 22)).alloc (.cells #[.int .i64 at_, .int .u8 by_, .int .i64 cut] 24)).alloc (.cells #[.bool false] 4) = W2 := ⟨_, rfl⟩
  have hz2 : W2.heap.size = w.heap.size + 3 := by rw [← hW2]; simp
  have hk2 : Keeps [] w W2 := by rw [← hW2]; exact (((Keeps.refl [] w).alloc _).alloc _).alloc _
  rw [hW2] at b0 b1' b2
  have HB0 := Lib.hid b0
  have HB1 := Lib.hid b1'
  have HB2 := Lib.hid b2
  have HK2 := Lib.hid hk2
  have HS0 : Hid (RBld W2 W2 (.slice none 0 0) l 0) := ⟨by simpa [rowOf, offs, joinF] using World.ownsRow_nil W2 W2.heap.size 5 1, Keeps.refl _ _⟩
  refine (callsIn_wide (n := 3)).1 ?_
  refine callsIn_of_wp_marks Try.func3 rfl trivial ?_ rfl
  simp only [Try.ntmps3, List.size_toArray, List.length_cons, List.length_nil, Nat.reduceAdd, Nat.reduceSub, Array.replicate_succ, Array.replicate_zero, List.push_toArray, List.append_toArray, List.nil_append, List.cons_append]
  refine wpIn_wide.2 ?_
  clear hl hfe hk2 b1
  have c0 := b0.cell
  clear b0 b1' b2
  go_wp2_with (go_at_call 4; refine (HF.out _ HK2.out).mono ?_; rintro e w2 ⟨rfl, rfl⟩)
  go_loopw [7, 8] (fun v i wr => ∃ j : Nat, i = .int .i64 (j : Int) ∧ j ≤ len ∧ Hid (RBld W2 wr v l j)) (fun _ i _ => len - (intOf i).toNat)
  case atStart => exact ⟨0, rfl, Nat.zero_le _, HS0⟩
  case round =>
    obtain ⟨j, rfl, hj, HS⟩ := hrel
    have bx := boxed_keeps HB0.out HS.out.keep
    have cx := bx.cell
    have hof := offs_few H500.out j
    have hos := HS.out.own
    obtain ⟨VA, vc, rfl⟩ := own_slice hos
    clear bx hos
    by_cases hlt : j < len
    · have hx : l[j]? = some (l[j]'(by omega)) := List.getElem?_eq_getElem (by omega)
      have htk : l.take (j + 1) = l.take j ++ [l[j]'(by omega)] := List.take_succ_eq_append_getElem (by omega)
      have hx5 := H500.out _ (List.getElem_mem (show j < l.length by omega))
      obtain ⟨b, o, rfl, cr, hb, hxm⟩ := (HL.out.keep (HK2.out.trans' HS.out.keep)).at_ j _ hx
      generalize l[j]'(by omega) = x at *
      have HFR := Lib.hid (frame_ok x.A x.bs.length x.c x.bs wr rfl hb (by omega))
      have HRF := Lib.hid (fun w1 (hk : Keeps [] wr w1) => rframe x.A x.bs.length x.c x.bs w1 rfl (hb.grow hk) (by omega))
      have HTK := Lib.hid htk
      have CR := Lib.hid cr
      have CX := Lib.hid cx
      have lf : ((frameOf x.bs).map bv).length = x.bs.length + 12 := by simp [frameOf_len]
      have LF := Lib.hid lf
      have hzr := HS.out.keep.size
      clear hb hx htk lf
      go_wp2_with (first
        | (go_at_call 6; refine HFR.out.mono ?_; rintro e w1 ⟨g, cp, rfl, hg, hM, hk1⟩; have HM1 := Lib.hid hM; have HK1 := Lib.hid hk1; have HO1 := Lib.hid (own_keep HS.out.own hk1 (by simp)); have hz1 := hk1.size; clear hM hk1))
      have cx1 := (boxed_keeps (boxed_keeps HB0.out HS.out.keep) HK1.out).cell
      have cr1 := (HK1.out.cell (lt_of_cell CR.out) (by simp)).trans CR.out
      have hv1 : (convert 27 9 (.slice (some ⟨g, 0, none⟩) (x.bs.length + 12) cp)).run Try.prog w1.drew = .ok (.string ⟨(frameOf x.bs).toArray⟩) w1.drew := by
        have h := conv_bytes (w := w1.drew) (HM1.out.bytes.grow ((Keeps.refl [] w1).drew))
        rw [frameOf_len] at h
        exact h
      have HSZ := Lib.hid (fun W => size_ok x.A x.bs.length x.c W (by omega))
      refine no_panic ?_
      go_region_held (fun w' => w'.cell? ⟨w.heap.size, 0, none⟩ = some (.slice (some ⟨b, o, none⟩) len c) ∧ w'.cell? ⟨b, o + j, none⟩ = some (.slice x.A x.bs.length x.c) ∧ (convert 27 9 (.slice (some ⟨g, 0, none⟩) (x.bs.length + 12) cp)).run Try.prog w' = .ok (.string ⟨(frameOf x.bs).toArray⟩) w') (first | exact ⟨cx1, cr1, hv1⟩ | exact ⟨cx2, cr2, hv2⟩ | go_keep) (first
        | (go_at_call 7; refine (HRF.out _ HK1.out.drew).mono ?_; rintro e w2 ⟨RA, rc, rfl, ro, hk2⟩; have HK12 := Lib.hid hk2; have cx2 := (hk2.cell (p := ⟨w.heap.size, 0, none⟩) (lt_of_cell cx1) (by simp)).trans cx1; have cr2 := (hk2.cell (p := ⟨b, o + j, none⟩) (lt_of_cell cr1) (by simp)).trans cr1; have hv2 : (convert 27 9 (.slice (some ⟨g, 0, none⟩) (x.bs.length + 12) cp)).run Try.prog w2 = .ok (.string ⟨(frameOf x.bs).toArray⟩) w2 := (by have h := conv_bytes (w := w2) (HM1.out.bytes.grow (((Keeps.refl [] w1).drew).trans' hk2)); rw [frameOf_len] at h; exact h); have hv3 : (convert 27 9 (.slice RA (x.bs.length + 12) rc)).run Try.prog w2 = .ok (.string ⟨(frameOf x.bs).toArray⟩) w2 := (by have h := conv_bytes (own_bytes ro (by rw [frameOf_len])).1; exact h); clear ro hk2)
        | (go_at_call 8; refine (HSZ.out _).mono ?_; rintro e w3 ⟨rfl, rfl⟩))
      all_goals
        refine np_normal ?_
        go_wp2_with (at_builtin; refine wpList_append_opt rfl (.tmp 64) (.tmp 65) 27 rfl W2.heap.size 5 iu _ 1 1 Try.underlying27 hiu hzu0 hzu1 hzu2 rfl (by decide) (.slice VA (offs (rowOf (l.take j))) vc) (offs (rowOf (l.take j))) ((joinF (rowOf (l.take j))).map bv) rfl (own_keep HO1.out (((Keeps.refl [] w1).drew).trans' HK12.out) (by simp)) (some ⟨g, 0, none⟩) (x.bs.length + 12) cp ((frameOf x.bs).map bv) rfl (by rw [LF.out, Nat.mul_one]) (Src.of_bytes (by have h := HM1.out.bytes; rw [frameOf_len] at h; exact h.grow (((Keeps.refl [] w1).drew).trans' HK12.out))) bvs_one (by unfold maxLen; omega) (by omega) (by have := HK12.out.size; have : w1.drew.heap.size = w1.heap.size := rfl; omega) ?_; intro v2 w3 ho2 hg2 hs2; have HN := Lib.hid (HS.out.next HTK.out (HK1.out.trans' (((Keeps.refl [] w1).drew).trans' HK12.out)) ho2 hg2); clear ho2 hg2 hs2)
        go_roundw
        case rel => exact ⟨j + 1, by go_num, by omega, HN⟩
        case measure => simp [intOf]; omega
    · obtain rfl : j = len := by omega
      have htl : l.take j = l := List.take_of_length_le (by omega)
      rw [htl] at HS hof
      have hN : offs (rowOf l) ≤ 6144 := by omega
      obtain ⟨N, hNd⟩ : ∃ N, offs (rowOf l) = N := ⟨_, rfl⟩
      have hjl : (joinF (rowOf l)).length = N := by rw [joinF_len, hNd]
      have O0 := HS.out.own
      rw [htl, hNd] at O0
      rw [htl, hNd]
      have hz0 := HS.out.keep.size
      have K0 := Lib.hid (HK2.out.trans' HS.out.keep)
      have HO0 := Lib.hid O0
      have h3r := recs_joinF (rowOf l) (List.replicate M (0 : UInt8)) (rowOf_short H500.out)
      rw [recs_zeros, List.append_nil] at h3r
      have hxl : (joinF (rowOf l) ++ List.replicate M (0 : UInt8)).length = N + M := by rw [List.length_append, hjl, List.length_replicate]
      have hmb : (joinF (rowOf l)).map bv ++ List.replicate M (Value.int .u8 0) = (joinF (rowOf l) ++ List.replicate M (0 : UInt8)).map bv := by rw [List.map_append, List.map_replicate]; rfl
      generalize joinF (rowOf l) ++ List.replicate M (0 : UInt8) = ys at *
      have hoe : offs (recs ys) = N := by rw [h3r, hNd]
      have HRR := Lib.hid h3r
      have HXL := Lib.hid hxl
      have HOE := Lib.hid hoe
      have HMB := Lib.hid hmb
      clear h3r O0 hxl hjl hoe hmb
      go_wp2_with (first
        | (at_builtin; refine wpList_append_zeros rfl (.tmp 69) (.tmp 70) 27 3 rfl W2.heap.size 5 .i64 iu (.int .u8 0) Try.underlying27 Try.underlying3 hiu hzu0 hzu1 hzu2 rfl rfl (.slice VA N vc) N ((joinF (rowOf l)).map bv) rfl HO0.out M rfl (by unfold maxLen; omega) (by omega) (by omega) ?_; intro v2 w2 ho2 hg2 hs2; obtain ⟨A2, c2, hv2⟩ := own_slice ho2; subst hv2; rw [HMB.out] at ho2; have HO2 := Lib.hid ho2; have hb2 := (own_bytes ho2 HXL.out).1; have k2 := keeps_own HO0.out HS.out.keep hg2; have HBX := Lib.hid hb2; have BI2 := Lib.hid (boxed_keeps HB0.out k2); have BX2 := Lib.hid (blk_keep HB1.out k2 (by simp)); have BR2 := Lib.hid (boxed_keeps HB2.out k2); have K2 := Lib.hid (HK2.out.trans' k2); have HEN := Lib.hid (end_is A2 (N + M) c2 ys w2 HXL.out hb2); rw [HOE.out] at HEN; clear ho2 hg2 hs2 hb2 k2)
        | (go_at_call 9; refine HEN.out.mono ?_; rintro e w4 ⟨rfl, hk4⟩; have HK4 := Lib.hid (hk4.alloc (.cells #[.int .i64 0] 3)); have hbi := Boxed.new w4 3 (.int .i64 0); have HBI := Lib.hid hbi; have hz4 := hk4.size; clear hk4 hbi)
        | (go_at_call 10; refine (all_is A2 (N + M) c2 ys _ HXL.out (HBX.out.grow HK4.out) (by omega)).mono ?_; rintro e w5 ⟨g5, B5, d5, rfl, hr5, hg5, ho5, hk5⟩; have HK5 := Lib.hid hk5; have hnn := all_not_nil g5; clear hr5 ho5 hk5)
        | (go_at_call 10; refine (all_is A2 (N + M) c2 ys _ HXL.out (HBX.out.grow (HK4.out.trans' HK5.out)) (by omega)).mono ?_; rintro e w6 ⟨g6, B6, d6, rfl, hr6, hg6, ho6, hk6⟩; have HR6 := Lib.hid hr6; have HK6 := Lib.hid hk6; have HB6 : Hid (0 < ys.length → ∀ b, (Value.slice B6 (N + M) d6).ownBlock = some b → w4.heap.size < b) := (fun h0 b hb => (by have h1 := ho6 b hb; have h2 := HK5.out.size; have h3 : (w4.alloc (.cells #[.int .i64 0] 3)).heap.size = w4.heap.size + 1 := (by simp); omega)); clear hr6 ho6 hk6))
      have k26 := (HK4.out.trans' HK5.out).trans' HK6.out
      have k56 := HK5.out.trans' HK6.out
      have hz46 := k56.size
      have hzA : (w4.alloc (.cells #[.int .i64 0] 3)).heap.size = w4.heap.size + 1 := by simp
      have hzw2 := BR2.out.lt
      have hz24 := HK4.out.size
      have I0 : RowI w W2 A j c #[.int .i64 at_, .int .u8 by_, .int .i64 cut] w4.heap.size (.slice A2 (N + M) c2) (N + M) ys 0 w6 := ⟨boxed_keeps HBI.out k56, boxed_keeps BI2.out k26, blk_keep BX2.out k26 (by simp), boxed_keeps BR2.out k26, own_keep HO2.out k26 (by simp), (K2.out.trans' k26).below (Nat.le_refl _) (by simp)⟩
      have HA2 : Hid (∀ b, (Value.slice A2 (N + M) c2).ownBlock = some b → b ≠ w4.heap.size) := fun b hb => by have := (HO2.out.lt b hb).2; omega
      have HI0 := Lib.hid I0
      have hg6' := HR6.out.1
      have hzg : g6 < w6.heap.size := lt_of_cell hg6'
      have hz56 := HK6.out.size
      have hz45 := HK5.out.size
      clear k26 k56 I0 hg6' hnn
      refine (wpIn_wide (n := 3)).1 ?_
      refine range_seqs (n := 3) (gf := 20) (lb := #[.pointer (some ⟨g6, 0, none⟩)]) rfl (enters_of Try.func20 (by kernel_rfl) rfl) (all_seq g6 (N + M) d6 B6 ys HXL.out) (fun k args X h => by obtain ⟨v, r, rfl, _⟩ := h; rfl) (RestD.under _) HR6.out
        (fun k X => Hid (RowI w W2 A j c #[.int .i64 at_, .int .u8 by_, .int .i64 cut] w4.heap.size (.slice A2 (N + M) c2) (N + M) ys k X))
        (fun _ _ _ => False)
        (fun k X Y h hb => RowI.under (by omega) X Y h hb)
        (fun _ _ X Y h hb => h)
        HI0
        (fun args => { tmps := #[Value.slice A j c, Value.int IntKind.i64 ↑M, Value.agg #[Value.int IntKind.i64 at_, Value.int IntKind.u8 by_, Value.int IntKind.i64 cut], Value.pointer (some { block := w.heap.size, off := 0 }), undef, Value.pointer (some { block := w.heap.size + 1, off := 0 }), Value.pointer (some { block := w.heap.size + 1 + 1, off := 0 }), Value.slice A2 (N + M) c2, Value.int IntKind.i64 ↑j, u9, u10, Value.int IntKind.i64 ↑N, Value.pointer (some { block := w4.heap.size, off := 0 }), undef, args.getD 1 undef, Value.slice A j c, Value.bool true, Value.bool false, Value.bool false, Value.int IntKind.i64 ↑M, Value.bool (decide ((M : Int) < 0)), Value.bool (decide ((M : Int) < 0)), Value.bool (decide ((M : Int) < 0)), Value.int IntKind.i64 ↑M, Value.bool (decide ((100 : Int) < (M : Int))), Value.bool (decide ((M : Int) < 0) || decide ((100 : Int) < (M : Int))), undef, Value.int IntKind.i64 ↑j, Value.slice A j c, Value.int IntKind.i64 ↑j, Value.bool false, u31, u32, u33, u34, u35, u36, u37, u38, u39, u40, u41, u42, u43, u44, u45, u46, u47, u48, u49, u50, u51, u52, u53, u54, u55, u56, u57, u58, u59, u60, u61, u62, u63, u64, u65, u66, Value.slice VA N vc, Value.int IntKind.i64 ↑N, Value.slice VA N vc, Value.int IntKind.i64 ↑M, Value.slice A2 (N + M) c2, Value.slice A2 (N + M) c2, Value.int IntKind.i64 ↑N, Value.int IntKind.i64 ↑N, Value.bool false, Value.slice A2 (N + M) c2, Value.func (Fn.func 20) #[] #[Value.pointer (some { block := g5, off := 0 })], Value.bool false, Value.slice A2 (N + M) c2, Value.func (Fn.func 20) #[] #[Value.pointer (some { block := g6, off := 0 })], args.getD 0 undef, args.getD 1 undef, undef, undef, undef, undef, undef, undef, undef, undef, undef, undef, undef, undef, undef, undef, undef, undef, undef, undef, undef, undef, undef, undef, undef, undef, undef, undef, undef, undef, undef, undef, undef, undef, undef, undef, undef, undef, undef, undef, undef, undef, undef, undef, undef, undef, undef, undef, undef, undef, undef, undef, undef, undef, undef, undef, undef, undef, undef, undef, undef], defers := [] })
        (fun k args A l o h _ hl => recE_put k args A l o h hl) ?assign ?body ?done ?stop
      case assign =>
        rintro lp k args W K ⟨v, r, rfl, hr, hv⟩ hK
        gi_wp2
        exact hK
      case body =>
        rintro lp k args X hk hI hD2 hzX ⟨v, r, rfl, hr, hv⟩
        have hv' := hv
        obtain ⟨A', c', rfl, _, _, _⟩ := hv'
        have hmx : Try.prog.follows .mixedOrders = true := by kernel_rfl
        have k1 := hI.out.i.cell
        have k2 := hI.out.l.cell
        have f1 := hI.out.i.frozen
        have s1 := fun nq => conv_bytes (hv.grow (w' := X.drewN nq) ((Keeps.refl [] X).drewN nq))
        have FIN : Hid (∀ nq, k < (recs ys).length ∧ Hid (RowI w W2 A j c #[.int .i64 at_, .int .u8 by_, .int .i64 cut] w4.heap.size (.slice A2 (N + M) c2) (N + M) ys (k + 1) ((X.drewN nq).setCell ⟨w4.heap.size, 0, none⟩ (.int .i64 ((k : Int) + 1)))) ∧ RestD g6 B6 (N + M) d6 ys ((X.drewN nq).setCell ⟨w4.heap.size, 0, none⟩ (.int .i64 ((k : Int) + 1))) ∧ Over w6.heap.size X ((X.drewN nq).setCell ⟨w4.heap.size, 0, none⟩ (.int .i64 ((k : Int) + 1)))) := fun nq => by
          have kdr : Keeps [] X (X.drewN nq) := (Keeps.refl [] X).drewN nq
          have kset : Keeps [w4.heap.size] (X.drewN nq) ((X.drewN nq).setCell ⟨w4.heap.size, 0, none⟩ (.int .i64 ((k : Int) + 1))) := (Keeps.refl _ _).setCell (.inl (by simp)) _
          refine ⟨hk, hI.out.next (by omega) HA2.out nq, ⟨?_, ?_⟩, (Over.of_keeps kdr).trans (over_set _ _ (by omega))⟩
          · exact (World.cell?_setCell_far _ ⟨w4.heap.size, 0, none⟩ ⟨g6, 0, none⟩ _ (by show w4.heap.size ≠ g6; omega)).trans hD2.1
          · rcases Nat.eq_zero_or_pos ys.length with h0 | h0
            · exact hD2.2.none h0
            · exact (hD2.2.grow kdr).keep kset (fun b hb hm => by have := HB6.out h0 b hb; simp at hm; omega)
        have hkl : k < j := by
          have h1 := hk
          rw [HRR.out] at h1
          simpa [rowOf, hlen] using h1
        have hx : l[k]? = some (l[k]'(by omega)) := List.getElem?_eq_getElem (by omega)
        obtain ⟨b, o, rfl, cr, hb, hxm⟩ := (HL.out.keep (Keeps.of_below hI.out.bel)).at_ k _ hx
        have hrx : r = (l[k]'(by omega)).bs := by
          rw [HRR.out, rowOf_get hx] at hr
          exact (Option.some.inj hr).symm
        generalize l[k]'(by omega) = x at *
        subst hrx
        have s2 := fun nq => conv_bytes (hb.grow (w' := X.drewN nq) ((Keeps.refl [] X).drewN nq))
        have hd : decide (j ≤ k) = false := decide_eq_false (by omega)
        have hkz : (k : Int) < (j : Int) := by omega
        have hkb : k < 100000 := by omega
        clear hb hx hv hI hD2
        gi_wp2
        refine quiet_in_round hmx (by kernel_rfl) (by kernel_rfl) (fun ⟨_, _, h⟩ => h) ?_
        repeat (go_big_quiet_step (fail))
        refine wpQuiet_nil ?_
        rintro _ ⟨nq, rfl⟩
        gi_wp2
        exact FIN.out nq
      case done =>
        rintro X hNM hI hK
        have hNj : (recs ys).length = j := by rw [HRR.out]; simpa [rowOf] using hlen
        rw [hNj] at hI
        have k1 := hI.out.i.cell
        have k2 := hI.out.l.cell
        have HKK := Lib.hid hK
        have x0 := cell_of_blk hI.out.x 0
        have x1 := cell_of_blk hI.out.x 1
        have x2 := cell_of_blk hI.out.x 2
        clear hK
        simp only [List.getElem?_toArray, List.getElem?_cons_zero, List.getElem?_cons_succ] at x0 x1 x2
        have hmx : Try.prog.follows .mixedOrders = true := by kernel_rfl
        obtain ⟨hcap, hcap2, hx9⟩ := cap_of_bytes HBX.out
        clear hx9 hcap2
        by_cases hp : 0 < N + M ∧ 0 ≤ at_
        · obtain ⟨hp1, hp2⟩ := hp
          obtain ⟨a, rfl⟩ : ∃ a : Nat, at_ = (a : Int) := ⟨at_.toNat, by omega⟩
          obtain ⟨bb, rfl⟩ : ∃ bb : Nat, by_ = (bb : Int) := ⟨by_.toNat, by omega⟩
          obtain ⟨gb, hgb, hA⟩ : ∃ gb, A2 = some ⟨gb, 0, none⟩ ∧ BytesAt X (.slice A2 (N + M) c2) ys ∧ (∀ i, X.frozen? ⟨gb, i, none⟩ = false) := by
            have hb := (own_bytes hI.out.own HXL.out).1
            rcases hI.out.own.2 with ⟨e1, e2⟩ | ⟨g, cap, cur, e1, e2, e3, e4⟩
            · omega
            · injection e1 with e1
              exact ⟨g, e1, hb, free_of_blk e3⟩
          subst hgb
          obtain ⟨q, hq⟩ : ∃ q, a % (N + M) = q := ⟨_, rfl⟩
          have hqm : q < N + M := by rw [← hq]; exact Nat.mod_lt _ hp1
          have hmod : (a : Int).tmod ((N : Int) + (M : Int)) = (q : Int) := by rw [← hq]; rfl
          have hy : ys[q]? = some (ys[q]'(by rw [HXL.out]; exact hqm)) := List.getElem?_eq_getElem _
          have ck := hA.1.cells q _ (by rw [List.getElem?_map, hy]; rfl)
          rw [add_at, Nat.zero_add] at ck
          generalize ys[q]'(by rw [HXL.out]; exact hqm) = u at *
          have fk := hA.2 q
          have hu8 := u.toNat_lt
          have x8 := u8_xor_nat u.toNat bb hu8 (by omega)
          have hy8 : u.toNat ^^^ bb < 256 := Nat.xor_lt_two_pow (n := 8) hu8 (by omega)
          have HBT := Lib.hid (bytes_set (w := X.drew) (hA.1.grow (Keeps.refl [] X).drew) (k := q) (by rw [HXL.out]; exact hqm) (UInt8.ofNat (u.toNat ^^^ bb)))
          have hgi : 0 < (N : Int) + (M : Int) := by omega
          simp only [bv] at ck
          have RT : RowT w w6.heap.size cut (.slice (some ⟨gb, 0, none⟩) (N + M) c2) (ys.set q (UInt8.ofNat (u.toNat ^^^ bb))) (X.setCell ⟨gb, q, none⟩ (.int .u8 ((u.toNat ^^^ bb : Nat) : Int))).drew := by
            have hub : bv (UInt8.ofNat (u.toNat ^^^ bb)) = .int .u8 ((u.toNat ^^^ bb : Nat) : Int) := by
              simp only [bv, UInt8.toNat_ofNat']
              rw [Nat.mod_eq_of_lt hy8]
            have hgl := (hI.out.own.lt gb rfl).1
            have hgl2 := (HO2.out.lt gb rfl).2
            have k1 : Keeps [gb] X (X.setCell ⟨gb, q, none⟩ (.int .u8 ((u.toNat ^^^ bb : Nat) : Int))).drew := ((Keeps.refl _ _).setCell (p := ⟨gb, q, none⟩) (.inl (by simp)) _).drew
            refine ⟨(k1.block _ hI.out.r.lt (by simp; omega)).trans hI.out.r, (k1.cell (p := ⟨w.heap.size + 1, 2, none⟩) (lt_of_cell x2) (by simp; omega)).trans x2, ?_, (k1.block _ (lt_of_heap HKK.out) (by simp; omega)).trans HKK.out, hI.out.bel.trans (k1.below hI.out.bel.size (by simp; omega))⟩
            have h := HBT.out
            rw [hub] at h
            exact h
          have HZ : Hid ((ys.set q (UInt8.ofNat (u.toNat ^^^ bb))).length = N + M) := by show _ = _; rw [List.length_set, HXL.out]
          have HT := Lib.hid RT
          clear hA hy hI RT HBT
          go_wp2_with fail
          refine no_panic ?_
          go_region_with (fail)
          all_goals
            refine np_normal ?_
            obtain ⟨Y, hY⟩ : ∃ Y, (X.setCell ⟨gb, q, none⟩ (.int .u8 ((u.toNat ^^^ bb : Nat) : Int))).drew = Y := ⟨_, rfl⟩
            rw [hY] at HT ⊢
            have cY := HT.out.c
            generalize ys.set q (UInt8.ofNat (u.toNat ^^^ bb)) = zs at *
            by_cases hc : 0 ≤ cut ∧ cut < (N : Int) + (M : Int)
            · obtain ⟨hc1, hc2⟩ := hc
              obtain ⟨kc, rfl⟩ : ∃ kc : Nat, cut = (kc : Int) := ⟨cut.toNat, by omega⟩
              have hk1 : kc ≤ c2 := by omega
              have hk0 : c2 ≠ 0 := by omega
              have hcz := bytes_cut HT.out.b (k := kc) (by rw [HZ.out]; omega)
              have hcl : (zs.take kc).length = kc := by rw [List.length_take, HZ.out]; omega
              have HCZ := Lib.hid hcz
              have HCL := Lib.hid hcl
              clear hcz hcl
              go_wp2_with (first
                | (go_at_call 11; refine (asks_is _ kc c2 _ _ HCL.out HCZ.out (by omega)).mono ?_; rintro e w7 ⟨rfl, hk7⟩; have HK7 := Lib.hid hk7; clear hk7)
                | (go_at_call 5; refine (known3_any _).mono ?_; rintro e w8 ⟨rfl, hk8⟩; have HK8 := Lib.hid (HK7.out.trans' hk8); have c8 := (boxed_keeps HT.out.r HK8.out).cell; have f8 := (boxed_keeps HT.out.r HK8.out).frozen; clear hk8))
              obtain ⟨U, u1, u2, u3, u4⟩ := HT.out.over HK8.out (by omega) (by omega)
              refine ⟨by simp, .inl ⟨_, _, rfl, run_takeDeferred u1, ?_⟩⟩
              rw [← u2]
              exact ⟨_, results_cell1 rfl _ _ rfl (fun w hc => load_var Try.isAgg4 w hc) u3.cell, rfl, u4⟩
            · go_wp2_with (first
                | (go_at_call 11; refine (asks_is _ (N + M) c2 _ _ HZ.out HT.out.b (by omega)).mono ?_; rintro e w7 ⟨rfl, hk7⟩; have HK7 := Lib.hid hk7; clear hk7)
                | (go_at_call 5; refine (known3_any _).mono ?_; rintro e w8 ⟨rfl, hk8⟩; have HK8 := Lib.hid (HK7.out.trans' hk8); have c8 := (boxed_keeps HT.out.r HK8.out).cell; have f8 := (boxed_keeps HT.out.r HK8.out).frozen; clear hk8))
              all_goals
                obtain ⟨U, u1, u2, u3, u4⟩ := HT.out.over HK8.out (by omega) (by omega)
                refine ⟨by simp, .inl ⟨_, _, rfl, run_takeDeferred u1, ?_⟩⟩
                rw [← u2]
                exact ⟨_, results_cell1 rfl _ _ rfl (fun w hc => load_var Try.isAgg4 w hc) u3.cell, rfl, u4⟩
        · have RT : RowT w w6.heap.size cut (.slice A2 (N + M) c2) ys X := ⟨hI.out.r, x2, (own_bytes hI.out.own HXL.out).1, HKK.out, hI.out.bel⟩
          have HZ := Lib.hid HXL.out
          have HT := Lib.hid RT
          have hp' : 0 < (N : Int) + (M : Int) → ¬ 0 ≤ at_ := fun h h2 => hp ⟨by omega, h2⟩
          clear hI RT
          have cY := HT.out.c
          by_cases hc : 0 ≤ cut ∧ cut < (N : Int) + (M : Int)
          · obtain ⟨hc1, hc2⟩ := hc
            obtain ⟨kc, rfl⟩ : ∃ kc : Nat, cut = (kc : Int) := ⟨cut.toNat, by omega⟩
            have hk1 : kc ≤ c2 := by omega
            have hk0 : c2 ≠ 0 := by omega
            have hcz := bytes_cut HT.out.b (k := kc) (by rw [HZ.out]; omega)
            have hcl : (ys.take kc).length = kc := by rw [List.length_take, HZ.out]; omega
            have HCZ := Lib.hid hcz
            have HCL := Lib.hid hcl
            clear hcz hcl
            go_wp2_with (first
              | (go_at_call 11; refine (asks_is _ kc c2 _ _ HCL.out HCZ.out (by omega)).mono ?_; rintro e w7 ⟨rfl, hk7⟩; have HK7 := Lib.hid hk7; clear hk7)
              | (go_at_call 5; refine (known3_any _).mono ?_; rintro e w8 ⟨rfl, hk8⟩; have HK8 := Lib.hid (HK7.out.trans' hk8); have c8 := (boxed_keeps HT.out.r HK8.out).cell; have f8 := (boxed_keeps HT.out.r HK8.out).frozen; clear hk8))
            obtain ⟨U, u1, u2, u3, u4⟩ := HT.out.over HK8.out (by omega) (by omega)
            refine ⟨by simp, .inl ⟨_, _, rfl, run_takeDeferred u1, ?_⟩⟩
            rw [← u2]
            exact ⟨_, results_cell1 rfl _ _ rfl (fun w hc => load_var Try.isAgg4 w hc) u3.cell, rfl, u4⟩
          · go_wp2_with (first
              | (go_at_call 11; refine (asks_is _ (N + M) c2 _ _ HZ.out HT.out.b (by omega)).mono ?_; rintro e w7 ⟨rfl, hk7⟩; have HK7 := Lib.hid hk7; clear hk7)
              | (go_at_call 5; refine (known3_any _).mono ?_; rintro e w8 ⟨rfl, hk8⟩; have HK8 := Lib.hid (HK7.out.trans' hk8); have c8 := (boxed_keeps HT.out.r HK8.out).cell; have f8 := (boxed_keeps HT.out.r HK8.out).frozen; clear hk8))
            all_goals
              obtain ⟨U, u1, u2, u3, u4⟩ := HT.out.over HK8.out (by omega) (by omega)
              refine ⟨by simp, .inl ⟨_, _, rfl, run_takeDeferred u1, ?_⟩⟩
              rw [← u2]
              exact ⟨_, results_cell1 rfl _ _ rfl (fun w hc => load_var Try.isAgg4 w hc) u3.cell, rfl, u4⟩
      case stop =>
        rintro cd k X hk h hK
        exact h.elim
