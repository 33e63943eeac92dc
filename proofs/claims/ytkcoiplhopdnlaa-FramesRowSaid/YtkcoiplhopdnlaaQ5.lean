/- asks, walked. -/
import Derived.Test.YtkcoiplhopdnlaaQ4
namespace Go.Proofs.Ytkcoiplhopdnlaa
open Go.RowKit Go.Shelf
set_option linter.unusedVariables false
attribute [local go_sem] Oper.semAt_some

theorem RA.rb {w wr : World} {xs : List UInt8} {lv pv : Value} (h : RA w wr xs (recs xs).length lv pv) : RB w wr.heap.size wr xs lv pv := by
  obtain ⟨⟨vals, h1, h2⟩, h3, _, hk⟩ := h
  refine ⟨⟨vals, h1, fun i v hv => ?_⟩, h3, fun b hb => (h1.lt b hb).2, fun b hb => (h3.lt b hb).2⟩
  obtain ⟨r, g1, B, d, rfl, g3⟩ := h2 i v hv
  exact ⟨r, g1, B, d, rfl, g3.grow hk, fun h0 b hb => (g3.grow hk).lt h0 b hb⟩

theorem equal_in_func (d : Nat) (f : Fn) (cs ds : Array Value) (w : World) : (Op.equalIn (d + 1) 34 (.func f cs ds) .nilFunc).run Try.prog w = .ok false w := by
  simp [Op.equalIn, run_underlying Try.underlying34]

theorem all_not_nil (g : Nat) (w : World) : (binOp .eql 34 (.func (.func 20) #[] #[.pointer (some ⟨g, 0, none⟩)]) .nilFunc).run Try.prog w = .ok (.bool false) w := by
  simp only [binOp]
  simp [Op.equal, Op.maxDepth, equal_in_func 9999]

set_option maxRecDepth 100000 in
set_option maxHeartbeats 2000000 in
theorem asks_is (A : Option Addr) (n c : Nat) (xs : List UInt8) (w : World) (hn : xs.length = n) (hb : BytesAt w (.slice A n c) xs) (hm : n ≤ 1000000) : Calls Try.prog 11 #[.slice A n c] w fun e w' => e = .returned (.bool true) ∧ Keeps [] w w' := by
  have hrl : (recs xs).length ≤ 1000000 := by
    have h1 := offs_le xs (recs xs).length
    rw [List.take_length] at h1
    have h2 : ∀ l : List (List UInt8), l.length ≤ offs l := fun l => by
      induction l with
      | nil => simp [offs]
      | cons r l ih => rw [offs_cons]; simp; omega
    have := h2 (recs xs)
    omega
  have R0 := Lib.hid (fun w1 hk => rall A n c xs w1 hn (hb.grow hk) hrl)
  have R1 := Lib.hid (fun w1 hk => first_is A n c xs w1 hn (hb.grow hk))
  have R2 := Lib.hid (fun w1 hk => rfirst_is A n c xs w1 hn (hb.grow hk))
  have R3 := Lib.hid (fun w1 hk => end_is A n c xs w1 hn (hb.grow hk))
  have R4 := Lib.hid (fun w1 hk => all_is A n c xs w1 hn (hb.grow hk) (by omega))
  have HN := Lib.hid hn
  clear hb hn
  refine (callsIn_wide (n := 3)).1 ?_
  refine callsIn_of_wp_marks Try.func11 rfl trivial ?_ rfl
  simp only [Try.ntmps11, List.size_toArray, List.length_cons, List.length_nil, Nat.reduceAdd, Nat.reduceSub, Array.replicate_succ, Array.replicate_zero, List.push_toArray, List.append_toArray, List.nil_append, List.cons_append]
  gi_wp2_with (first
    | (refine ⟨trivial, ?_⟩; gi_at_call 21; refine (callsIn_wide.2 (R0.out _ ((Keeps.refl [] w).alloc _))).mono ?_; rintro e w1 ⟨lv, pv, rfl, hra⟩; obtain ⟨LA, lc, rfl⟩ := own_slice hra.l.choose_spec.1; obtain ⟨PA, pc, rfl⟩ := own_slice hra.p; have HRB := Lib.hid hra.rb; have K1 := Lib.hid (((Keeps.refl [] w).alloc _).trans' hra.keep); have bq := boxed_keeps (Boxed.new w 4 (.bool false)) hra.keep; have BQ := Lib.hid bq; clear hra bq)
    | (refine ⟨trivial, ?_⟩; gi_at_call 12; refine (callsIn_wide.2 (R1.out _ ((K1.out.alloc _).alloc _))).mono ?_; rintro e w2 ⟨B2, d2, rfl, hb2, _, hk2⟩; have HB2 := Lib.hid hb2; have HK2 := Lib.hid hk2; have K2 := Lib.hid (((K1.out.alloc _).alloc _).trans' hk2); clear hb2 hk2)
    | (refine ⟨trivial, ?_⟩; gi_at_call 22; refine (callsIn_wide.2 (R2.out _ K2.out)).mono ?_; rintro e w3 ⟨B3, d3, rfl, hb3, hk3⟩; have HK3 := Lib.hid hk3; have K3 := Lib.hid (K2.out.trans' hk3); have v2 := conv_bytes (HB2.out.grow hk3); have v3 := conv_bytes hb3; clear hb3 hk3)
    | (refine ⟨trivial, ?_⟩; gi_at_call 9; refine (callsIn_wide.2 (R3.out _ K3.out)).mono ?_; rintro e w4 ⟨rfl, hk4⟩; have HK4 := Lib.hid hk4; have K4 := Lib.hid (K3.out.trans' hk4); clear hk4 v2 v3))
  have kk : Keeps [] ((w1.alloc (.cells #[.slice LA (recs xs).length lc] 22)).alloc (.cells #[.slice PA (recs xs).length pc] 48)) w4 := (HK2.out.trans' HK3.out).trans' HK4.out
  have bl0 := boxed_keeps ((Boxed.new w1 22 (.slice LA (recs xs).length lc)).alloc (.cells #[.slice PA (recs xs).length pc] 48)) kk
  have bp0 := Boxed.new (w1.alloc (.cells #[.slice LA (recs xs).length lc] 22)) 48 (.slice PA (recs xs).length pc)
  rw [World.size_alloc] at bp0
  have bp1 := boxed_keeps bp0 kk
  have bq0 := boxed_keeps BQ.out (((Keeps.refl [] w1).alloc _).alloc _ |>.trans' kk)
  have rb0 := HRB.out.keeps (((Keeps.refl [] w1).alloc _).alloc _ |>.trans' kk)
  have bi0 := Boxed.new w4 3 (.int .i64 0)
  have ka : Keeps [] w4 (w4.alloc (.cells #[.int .i64 0] 3)) := (Keeps.refl [] w4).alloc _
  have hlt4 := bl0.lt
  have hltp := bp1.lt
  have hltq := bq0.lt
  have S1 : Hid (Boxed (w4.alloc (.cells #[.int .i64 0] 3)) w4.heap.size 3 (.int .i64 0) ∧ Boxed (w4.alloc (.cells #[.int .i64 0] 3)) w1.heap.size 22 (.slice LA (recs xs).length lc) ∧ Boxed (w4.alloc (.cells #[.int .i64 0] 3)) (w1.heap.size + 1) 48 (.slice PA (recs xs).length pc) ∧ Boxed (w4.alloc (.cells #[.int .i64 0] 3)) w.heap.size 4 (.bool false) ∧ RB (w.alloc (.cells #[.bool false] 4)) w1.heap.size (w4.alloc (.cells #[.int .i64 0] 3)) xs (.slice LA (recs xs).length lc) (.slice PA (recs xs).length pc)) :=
    ⟨bi0, boxed_keeps bl0 ka, boxed_keeps bp1 ka, boxed_keeps bq0 ka, rb0.keeps ka⟩
  have K4a := Lib.hid (K4.out.alloc (.cells #[.int .i64 0] 3))
  have hz14 : w1.heap.size ≤ w4.heap.size := by omega
  have hzw1 := K1.out.size
  clear kk bl0 bp0 bp1 bq0 rb0 bi0 ka BQ HRB
  generalize w4.alloc (.cells #[.int .i64 0] 3) = W4 at *
  refine ⟨trivial, ?_⟩
  refine (callsIn_wide.2 (R4.out _ K4a.out)).mono ?_
  rintro e w5 ⟨g5, B5, d5, rfl, _, _, _, hk5⟩
  have HK5 := Lib.hid hk5
  have K5 := Lib.hid (K4a.out.trans' hk5)
  clear hk5
  have hnn := all_not_nil g5
  gi_wp2
  refine ⟨trivial, ?_⟩
  refine (callsIn_wide.2 (R4.out _ K5.out)).mono ?_
  rintro e w6 ⟨g6, B6, d6, rfl, hr6, hg6, ho6, hk6⟩
  have hk46 := HK5.out.trans' hk6
  have K6 := Lib.hid (K5.out.trans' hk6)
  have I0 : (Boxed w6 w4.heap.size 3 (.int .i64 0) ∧ Boxed w6 w1.heap.size 22 (.slice LA (recs xs).length lc) ∧ Boxed w6 (w1.heap.size + 1) 48 (.slice PA (recs xs).length pc) ∧ Boxed w6 w.heap.size 4 (.bool false) ∧ RB (w.alloc (.cells #[.bool false] 4)) w1.heap.size w6 xs (.slice LA (recs xs).length lc) (.slice PA (recs xs).length pc)) := ⟨boxed_keeps S1.out.1 hk46, boxed_keeps S1.out.2.1 hk46, boxed_keeps S1.out.2.2.1 hk46, boxed_keeps S1.out.2.2.2.1 hk46, S1.out.2.2.2.2.keeps hk46⟩
  have HR6 := Lib.hid hr6
  have HI0 := Lib.hid I0
  have HO6 := Lib.hid ho6
  have hz45 := HK5.out.size
  have hz4i := S1.out.1.lt
  clear hr6 hk46 hk6 I0 S1 ho6
  gi_wp2
  refine range_seqs (n := 3) (gf := 20) (lb := #[.pointer (some ⟨g6, 0, none⟩)]) rfl (enters_of Try.func20 (by kernel_rfl) rfl) (all_seq g6 n d6 B6 xs HN.out) (fun k args X h => by obtain ⟨v, r, rfl, _⟩ := h; rfl) (RestD.under _) HR6.out
    (fun k X => (Boxed X w4.heap.size 3 (.int .i64 (k : Nat)) ∧ Boxed X w1.heap.size 22 (.slice LA (recs xs).length lc) ∧ Boxed X (w1.heap.size + 1) 48 (.slice PA (recs xs).length pc) ∧ Boxed X w.heap.size 4 (.bool false) ∧ RB (w.alloc (.cells #[.bool false] 4)) w1.heap.size X xs (.slice LA (recs xs).length lc) (.slice PA (recs xs).length pc)) ∧ Below w.heap.size w X)
    (fun _ _ _ => False)
    (fun k X Y h hb => ⟨⟨boxed_under X Y h.1.1 hb, boxed_under X Y h.1.2.1 hb, boxed_under X Y h.1.2.2.1 hb, boxed_under X Y h.1.2.2.2.1 hb, h.1.2.2.2.2.kept hb⟩, h.2.trans ((hb.mono K6.out.size).below h.2.size)⟩)
    (fun _ _ X Y h hb => h)
    ⟨HI0.out, K6.out.below (Nat.le_refl _) (by simp)⟩
    (fun args => { tmps := #[Value.slice A n c, undef, Value.pointer (some { block := w.heap.size, off := 0 }), Value.pointer (some { block := w1.heap.size, off := 0 }), Value.pointer (some { block := w1.heap.size + 1, off := 0 }), Value.int IntKind.i64 ↑(offs (recs xs)), Value.slice B2 (fstR xs).length d2, Value.int IntKind.i64 ↑(fstN xs), Value.bool (framed xs), Value.slice B3 (fstR xs).length d3, Value.int IntKind.i64 ↑(fstN xs), Value.bool (framed xs), Value.pointer (some { block := w4.heap.size, off := 0 }), args.getD 0 undef, args.getD 1 undef, Value.tuple #[Value.slice LA (recs xs).length lc, Value.slice PA (recs xs).length pc, Value.int IntKind.i64 ↑(offs (recs xs))], Value.slice A n c, Value.tuple #[Value.slice LA (recs xs).length lc, Value.slice PA (recs xs).length pc, Value.int IntKind.i64 ↑(offs (recs xs))], Value.slice LA (recs xs).length lc, Value.slice PA (recs xs).length pc, Value.int IntKind.i64 ↑(offs (recs xs)), Value.tuple #[Value.slice B2 (fstR xs).length d2, Value.int IntKind.i64 ↑(fstN xs), Value.bool (framed xs)], Value.slice A n c, Value.tuple #[Value.slice B2 (fstR xs).length d2, Value.int IntKind.i64 ↑(fstN xs), Value.bool (framed xs)], Value.slice B2 (fstR xs).length d2, Value.int IntKind.i64 ↑(fstN xs), Value.bool (framed xs), Value.tuple #[Value.slice B3 (fstR xs).length d3, Value.int IntKind.i64 ↑(fstN xs), Value.bool (framed xs)], Value.slice A n c, Value.tuple #[Value.slice B3 (fstR xs).length d3, Value.int IntKind.i64 ↑(fstN xs), Value.bool (framed xs)], Value.slice B3 (fstR xs).length d3, Value.int IntKind.i64 ↑(fstN xs), Value.bool (framed xs), Value.slice B2 (fstR xs).length d2, Value.string { data := (fstR xs).toArray }, Value.slice B3 (fstR xs).length d3, Value.string { data := (fstR xs).toArray }, Value.bool false, Value.bool false, Value.int IntKind.i64 ↑(fstN xs), Value.int IntKind.i64 ↑(fstN xs), Value.bool false, Value.bool false, Value.bool false, Value.bool (framed xs), Value.bool (framed xs), Value.bool false, Value.bool false, Value.bool false, Value.slice A n c, Value.int IntKind.i64 ↑(offs (recs xs)), Value.int IntKind.i64 ↑(offs (recs xs)), Value.bool false, Value.bool false, Value.slice A n c, Value.func (Fn.func 20) #[] #[Value.pointer (some { block := g5, off := 0 })], Value.bool false, Value.slice A n c, Value.func (Fn.func 20) #[] #[Value.pointer (some { block := g6, off := 0 })], args.getD 0 undef, args.getD 1 undef, undef, undef, undef, undef, undef, undef, undef, undef, undef, undef, undef, undef, undef, undef, undef, undef, undef, undef, undef, undef, undef, undef, undef, undef, undef, undef, undef, undef], defers := [] })
    (fun k args A l o h _ hl => recE_put k args A l o h hl) ?assign ?body ?done ?stop
  case assign =>
    rintro l k args W K ⟨v, r, rfl, hr, hv⟩ hK
    gi_wp2
    exact hK
  case body =>
    rintro lp k args X hk ⟨⟨x1, x2, x3, x4, hrb⟩, hbX⟩ hD2 hzX ⟨v, r, rfl, hr, hv⟩
    have hv' := hv
    obtain ⟨A', c', rfl, _, _, _⟩ := hv'
    obtain ⟨g1, cc1, g2, cc2, Br, dr, hl1, hl2, cv, hbr, cp⟩ := hrb.get hr
    injection hl1 with hl1 _ hl3
    injection hl2 with hl2 _ hl4
    subst hl1 hl2 hl3 hl4
    have k1 := x1.cell
    have k2 := x2.cell
    have k3 := x3.cell
    have f1 := x1.frozen
    have s1 := fun nq => conv_bytes (hv.grow (w' := X.drewN nq) ((Keeps.refl [] X).drewN nq))
    have s2 := fun nq => conv_bytes (hbr.grow (w' := X.drewN nq) ((Keeps.refl [] X).drewN nq))
    have HX1 := Lib.hid x1
    have HX2 := Lib.hid x2
    have HX3 := Lib.hid x3
    have HX4 := Lib.hid x4
    have HRB := Lib.hid hrb
    have HBX := Lib.hid hbX
    have HD2 := Lib.hid hD2
    have hmx : Try.prog.follows .mixedOrders = true := by kernel_rfl
    have hkl : decide ((recs xs).length ≤ k) = false := decide_eq_false (by omega)
    have hkl2 : (k : Int) < ((recs xs).length : Int) := by omega
    clear hv hbr x1 x2 x3 x4 hrb hbX hD2
    gi_wp2
    refine quiet_in_round hmx (by kernel_rfl) (by kernel_rfl) (fun ⟨_, _, h⟩ => h) ?_
    repeat (go_big_quiet_step (fail))
    refine wpQuiet_nil ?_
    rintro _ ⟨nq, rfl⟩
    gi_wp2
    have kdr : Keeps [] X (X.drewN nq) := (Keeps.refl [] X).drewN nq
    have hcast : (.int .i64 ((k : Int) + 1) : Value) = .int .i64 ((k + 1 : Nat) : Int) := by simp
    have kset : Keeps [w4.heap.size] (X.drewN nq) ((X.drewN nq).setCell ⟨w4.heap.size, 0, none⟩ (.int .i64 ((k : Int) + 1))) := (Keeps.refl _ _).setCell (.inl (by simp)) _
    have hbs := below_set (n := w.heap.size) (b := w4.heap.size) (X.drewN nq) (.int .i64 ((k : Int) + 1)) (by omega)
    have hbi := HI0.out.1.lt
    refine ⟨hk, ⟨⟨?_, ?_, ?_, ?_, ?_⟩, (HBX.out.trans (kdr.below HBX.out.size (by simp))).trans hbs⟩, ⟨?_, ?_⟩, (Over.of_keeps kdr).trans (over_set _ _ hbi)⟩
    · rw [← hcast]
      exact (boxed_keeps HX1.out kdr).set _
    · exact (boxed_keeps HX2.out kdr).other (by omega) _
    · exact (boxed_keeps HX3.out kdr).other (by omega) _
    · exact (boxed_keeps HX4.out kdr).other (by omega) _
    · exact (HRB.out.keeps kdr).keep kset (by simp; omega)
    · exact (World.cell?_setCell_far _ ⟨w4.heap.size, 0, none⟩ ⟨g6, 0, none⟩ _ (by show w4.heap.size ≠ g6; omega)).trans HD2.out.1
    · exact (HD2.out.2.grow kdr).keep kset (fun b hb hm => by have := HO6.out b hb; simp at hm; omega)
  case done =>
    rintro X hNM ⟨⟨x1, x2, x3, x4, hrb⟩, hbX⟩ hK
    have k1 := x1.cell
    have k2 := x2.cell
    have k4 := x4.cell
    have f4 := x4.frozen
    gi_wp2
    have y4 := x4.set (.bool true)
    have hbs := below_set (n := w.heap.size) X (.bool true) (Nat.le_refl _)
    have hKd : (X.setCell ⟨w.heap.size, 0, none⟩ (.bool true)).heap[w6.heap.size]? = some (.deferred (some [])) := (Below.heap_setCell X ⟨w.heap.size, 0, none⟩ _ _ (by have := K6.out.size; have := (HI0.out.2.2.2.1).lt; show w6.heap.size ≠ w.heap.size; omega)).trans hK
    have hkp : Kept w.heap.size (X.setCell ⟨w.heap.size, 0, none⟩ (.bool true)) ((X.setCell ⟨w.heap.size, 0, none⟩ (.bool true)).putObj w6.heap.size (.deferred none)) := Kept.put K6.out.size hKd rfl
    refine ⟨by simp, .inl ⟨_, _, rfl, run_takeDeferred hKd, ?_⟩⟩
    refine ⟨_, results_cell1 rfl _ _ rfl (fun w hc => load_var Try.isAgg4 w hc) (hkp.cell y4.cell), ?_⟩
    exact ⟨rfl, Keeps.of_below ((hbX.trans hbs).trans (hkp.below (by have := hbX.size; have := hbs.size; omega)))⟩
  case stop =>
    rintro cd k X hk h hK
    exact h.elim

end Go.Proofs.Ytkcoiplhopdnlaa
