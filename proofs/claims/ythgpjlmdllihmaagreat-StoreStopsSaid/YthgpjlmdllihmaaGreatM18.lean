/- Texts of one proof, laid together: U13. -/
import Derived.Test.YthgpjlmdllihmaaGreatM17
import Derived.Test.YthgpjlmdllihmaaGreatM07
import Derived.Test.YthgpjlmdllihmaaGreatM08
/- rowsIn, walked. -/
namespace Go.Proofs.YthgpjlmdllihmaaGreat
open Go.RowKit Go.Shelf Go.Maps Go.ChangeMaps Go.MapKept
set_option linter.unusedVariables false
set_option linter.unusedSimpArgs false
set_option maxRecDepth 100000
attribute [local go_sem] Oper.semAt_some

set_option maxHeartbeats 2000000 in
theorem rowsin_is (A : Option Addr) (n c mv : Nat) (xs : List UInt8) (w : World) (hn : xs.length = n) (hb : BytesAt w (.slice A n c) xs) (hm : n ≤ 1000000) (hmv : mv < 4294967296) : Calls Tryz.prog 57 #[.slice A n c, .int .u32 (mv : Int)] w fun e w' =>
    ∃ m T, e = .returned (.tuple #[.map m, .bool (rowsOk mv xs)]) ∧ TabV w' m T ∧ (∀ S, rowsP mv xs = some S → T = S) ∧ (∀ b, m = some b → w.heap.size ≤ b) ∧ Below w.heap.size w w' := by
  have hrl := recs_few xs
  have HB := Lib.hid hb
  have HN := Lib.hid hn
  have b0 := ((Boxed.new w 58 (.int .u32 (mv : Int))).alloc (.cells #[.map none] 60)).alloc (.cells #[.bool false] 4)
  have b1 := (Boxed.new (w.alloc (.cells #[.int .u32 (mv : Int)] 58)) 60 (.map none)).alloc (.cells #[.bool false] 4)
  have b2 := Boxed.new ((w.alloc (.cells #[.int .u32 (mv : Int)] 58)).alloc (.cells #[.map none] 60)) 4 (.bool false)
  simp only [World.size_alloc] at b1 b2
  obtain ⟨W0, hW0⟩ : ∃ W0, ((w.alloc (.cells #[.int .u32 (mv : Int)] 58)).alloc (.cells #[.map none] 60)).alloc (.cells #[.bool false] 4) = W0 := ⟨_, rfl⟩
  have hz0 : W0.heap.size = w.heap.size + 1 + 1 + 1 := by rw [← hW0]; simp
  have hk0 : Keeps [] w W0 := by rw [← hW0]; exact (((Keeps.refl [] w).alloc _).alloc _).alloc _
  rw [hW0] at b0 b1 b2
  have hmm := fun W => @run_makeMap Tryz.prog W
  have m0 := (MapAt.made W0).keep ((Keeps.refl [] (W0.alloc (.map #[] 0))).alloc (.cells #[.map (some W0.heap.size)] 60)) (by simp)
  have b4 := Boxed.new (W0.alloc (.map #[] 0)) 60 (.map (some W0.heap.size))
  simp only [World.size_alloc] at b4
  have hkm : Keeps [] W0 ((W0.alloc (.map #[] 0)).alloc (.cells #[.map (some W0.heap.size)] 60)) := ((Keeps.refl [] W0).alloc _).alloc _
  rw [hz0] at m0 b4 hkm
  have hI0 : RowsI w mv (w.heap.size + 1 + 1 + 1) [] ((W0.alloc (.map #[] 0)).alloc (.cells #[.map (some (w.heap.size + 1 + 1 + 1))] 60)) :=
    ⟨boxed_keeps b0 hkm, boxed_keeps b1 hkm, boxed_keeps b2 hkm, b4, m0, (hk0.trans' hkm).below (Nat.le_refl _) (by simp)⟩
  have HI0 := Lib.hid hI0
  have HKM := Lib.hid (hk0.trans' hkm)
  refine (callsIn_wide (n := 3)).1 ?_
  refine callsIn_of_wp_marks Tryz.func57 rfl trivial ?_ rfl
  simp only [Tryz.ntmps57, List.size_toArray, List.length_cons, List.length_nil, Nat.reduceAdd, Nat.reduceSub, Array.replicate_succ, Array.replicate_zero, List.push_toArray, List.append_toArray, List.nil_append, List.cons_append]
  refine wpIn_wide.2 ?_
  clear hb hn b0 b1 b2 hk0 m0 b4 hkm hI0
  go_wp2_with (first
    | (go_at_call 74; refine (all_is A n c xs _ HN.out (HB.out.grow HKM.out) (by omega)).mono ?_; rintro e w5 ⟨g5, B5, d5, rfl, hr5, hg5, ho5, hk5⟩; have HR5 := Lib.hid hr5; have HK5 := Lib.hid hk5; have HO5 := Lib.hid ho5; clear hr5 hk5 ho5))
  have hzA : ((W0.alloc (.map #[] 0)).alloc (.cells #[.map (some (w.heap.size + 1 + 1 + 1))] 60)).heap.size = w.heap.size + 5 := by simp; omega
  have hz5 := HK5.out.size
  have hg5' := HR5.out.1
  have hzg : g5 < w5.heap.size := lt_of_cell hg5'
  have HI5 : Hid (∃ T, RowsI w mv (w.heap.size + 1 + 1 + 1) T w5 ∧ rowsP mv xs = rowsGo mv ((recs xs).drop 0) T ∧ T.length ≤ 0) := ⟨[], HI0.out.keeps HK5.out, rfl, Nat.le_refl _⟩
  clear hg5'
  rename_i Q0 K0 hK0
  have HT : Hid (∀ X T, RowsI w mv (w.heap.size + 1 + 1 + 1) T X → rowsP mv xs = some T → T.length ≤ 1000000 → X.heap[w5.heap.size]? = some (.deferred (some [])) → K0 { tmps := #[Value.slice A n c, Value.int IntKind.u32 ↑mv, undef, Value.pointer (some { block := w.heap.size, off := 0 }), Value.pointer (some { block := w.heap.size + 1, off := 0 }), Value.pointer (some { block := w.heap.size + 1 + 1, off := 0 }), Value.pointer (some { block := w.heap.size + 1 + 1 + 1 + 1, off := 0 }), undef, undef, undef, undef, undef, undef, undef, Value.map (some (w.heap.size + 1 + 1 + 1)), Value.slice A n c, Value.func (Fn.func 91) #[] #[Value.pointer (some { block := g5, off := 0 })], undef, undef, undef, undef, undef, undef, undef, undef, undef, undef, undef, undef, undef, undef, undef, undef, undef, undef, undef, undef, undef, undef, undef, undef, undef, undef, undef, undef, undef, undef, undef, undef, undef, undef, undef, undef, undef], defers := [{ target := .collected w5.heap.size, args := #[] }] } X) := by
    rintro X T hI hP2 hT6 hK
    refine hK0 _ _ ?_
    have HP2 := Lib.hid hP2
    have HI := Lib.hid hI
    have HKK := Lib.hid hK
    have HSK : Hid (∀ Z, Keeps [w.heap.size + 1, w.heap.size + 1 + 1] X Z → Z.cell? ⟨w.heap.size + 1 + 1 + 1 + 1, 0, none⟩ = some (.map (some (w.heap.size + 1 + 1 + 1))) ∧ Z.cell? ⟨w.heap.size, 0, none⟩ = some (.int .u32 (mv : Int)) ∧ (Builtin.len_ #[60] 3 #[.map (some (w.heap.size + 1 + 1 + 1))]).run Tryz.prog Z = .ok (.int .i64 (T.length : Nat)) Z) := fun Z hZ =>
      ⟨(hZ.cell (p := ⟨w.heap.size + 1 + 1 + 1 + 1, 0, none⟩) hI.t.lt (by simp <;> omega)).trans hI.t.cell, (hZ.cell (p := ⟨w.heap.size, 0, none⟩) hI.m.lt (by simp; omega)).trans hI.m.cell, run_tlen (show TabV Z (some (w.heap.size + 1 + 1 + 1)) T from hI.map.keep hZ (by simp <;> omega)) 60 Tryz.underlying60 3⟩
    have rf := hI.r.frozen
    have of := hI.o.frozen
    have rc := hI.r.cell
    have oc := hI.o.cell
    clear hI hK hP2
    have hwr : IntKind.u32.wrap (T.length : Int) = (T.length : Int) := by rw [IntKind.wrap_u32]; omega
    have HFIN : Hid (∀ (bo : Bool) (Y : World), rowsOk mv xs = bo → Y = ((X.setCell ⟨w.heap.size + 1, 0, none⟩ (.map (some (w.heap.size + 1 + 1 + 1)))).setCell ⟨w.heap.size + 1 + 1, 0, none⟩ (.bool bo)).drew → Y.heap[w5.heap.size]? = some (.deferred (some [])) ∧ Boxed (Y.putObj w5.heap.size (.deferred none)) (w.heap.size + 1) 60 (.map (some (w.heap.size + 1 + 1 + 1))) ∧ Boxed (Y.putObj w5.heap.size (.deferred none)) (w.heap.size + 1 + 1) 4 (.bool bo) ∧ MapAt (Y.putObj w5.heap.size (.deferred none)) (w.heap.size + 1 + 1 + 1) T ∧ Below w.heap.size w (Y.putObj w5.heap.size (.deferred none))) := by
      rintro bo Y _ rfl
      have k1 : Keeps [w.heap.size + 1, w.heap.size + 1 + 1] X ((X.setCell ⟨w.heap.size + 1, 0, none⟩ (.map (some (w.heap.size + 1 + 1 + 1)))).setCell ⟨w.heap.size + 1 + 1, 0, none⟩ (.bool bo)).drew := (((Keeps.refl _ X).setCell (.inl (by simp)) _).setCell (.inl (by simp)) _).drew
      have hm5 : ((X.setCell ⟨w.heap.size + 1, 0, none⟩ (.map (some (w.heap.size + 1 + 1 + 1)))).setCell ⟨w.heap.size + 1 + 1, 0, none⟩ (.bool bo)).drew.heap[w5.heap.size]? = some (.deferred (some [])) := (k1.block _ (lt_of_heap HKK.out) (by simp; omega)).trans HKK.out
      have hkp : Kept w5.heap.size _ ((((X.setCell ⟨w.heap.size + 1, 0, none⟩ (.map (some (w.heap.size + 1 + 1 + 1)))).setCell ⟨w.heap.size + 1 + 1, 0, none⟩ (.bool bo)).drew).putObj w5.heap.size (.deferred none)) := Kept.put (Nat.le_refl _) hm5 rfl
      have r2 := (HI.out.r.set (.map (some (w.heap.size + 1 + 1 + 1)))).other (B' := w.heap.size + 1 + 1) (by omega) (.bool bo)
      have o2 := (HI.out.o.other (B' := w.heap.size + 1) (by omega) (.map (some (w.heap.size + 1 + 1 + 1)))).set (.bool bo)
      have m2 : MapAt ((X.setCell ⟨w.heap.size + 1, 0, none⟩ (.map (some (w.heap.size + 1 + 1 + 1)))).setCell ⟨w.heap.size + 1 + 1, 0, none⟩ (.bool bo)).drew (w.heap.size + 1 + 1 + 1) T := HI.out.map.keep k1 (by simp <;> omega)
      exact ⟨hm5, hkp.block _ _ r2 (.inr rfl), hkp.block _ _ o2 (.inr rfl), m2.kept hkp (by omega), (HI.out.bel.trans (k1.below HI.out.bel.size (by simp <;> omega))).trans ((hkp.mono (by omega)).below (by have := HI.out.bel.size; have := k1.size; omega))⟩
    have HOK : Hid (rowsOk mv xs = (decide (T.length = mv) && decide (mv ≤ 200))) := by show _ = _; simp [rowsOk, HP2.out]
    have HTS : Hid (∀ S, rowsP mv xs = some S → T = S) := fun S hS => by rw [HP2.out] at hS; injection hS
    by_cases heq : T.length = mv
    · have hbq : ((T.length : Int) == (mv : Int)) = true := by simp; omega
      have HB2 : Hid (rowsOk mv xs = decide ((mv : Int) ≤ 200)) := by
        show _ = _
        rw [HOK.out, decide_eq_true heq, Bool.true_and]
        by_cases h2 : mv ≤ 200
        · rw [decide_eq_true h2, decide_eq_true (by omega)]
        · rw [decide_eq_false h2, decide_eq_false (by omega)]
      clear HOK heq
      go_wp2_with fail
      refine no_panic ?_
      go_region_held (fun w' => w'.cell? ⟨w.heap.size + 1 + 1 + 1 + 1, 0, none⟩ = some (.map (some (w.heap.size + 1 + 1 + 1))) ∧ w'.cell? ⟨w.heap.size, 0, none⟩ = some (.int .u32 (mv : Int)) ∧ (Builtin.len_ #[60] 3 #[.map (some (w.heap.size + 1 + 1 + 1))]).run Tryz.prog w' = .ok (.int .i64 (T.length : Nat)) w') (first | exact HSK.out _ ((Keeps.refl _ X).drew) | exact HSK.out _ (((Keeps.refl _ X).setCell (p := ⟨_, 0, none⟩) (.inl (by simp)) _).drew) | exact HSK.out _ ((((Keeps.refl _ X).setCell (p := ⟨_, 0, none⟩) (.inl (by simp)) _).setCell (p := ⟨_, 0, none⟩) (.inl (by simp)) _).drew)) (fail)
      all_goals
        refine np_normal ?_
        go_wp2_with fail
        obtain ⟨u1, u2, u3, u4, u5⟩ := HFIN.out _ _ HB2.out rfl
        refine ⟨by simp, .inl ⟨_, _, rfl, run_takeDeferred u1, ?_⟩⟩
        exact ⟨_, res_cell2 rfl _ _ rfl rfl (load_var Tryz.isAgg60 _ u2.cell) (load_var Tryz.isAgg4 _ u3.cell), some (w.heap.size + 1 + 1 + 1), T, by rw [HB2.out], u4, HTS.out, fun b hb => by injection hb with hb; omega, u5⟩
    · have hbq : ((T.length : Int) == (mv : Int)) = false := by simp; omega
      have hbw : (IntKind.u32.wrap (T.length : Int) == (mv : Int)) = false := by rw [hwr]; exact hbq
      have hbn : ¬ ((T.length : Int) = (mv : Int)) := by omega
      have HB2 : Hid (rowsOk mv xs = false) := by
        show _ = _
        rw [HOK.out, decide_eq_false heq, Bool.false_and]
      clear HOK
      go_wp2_with fail
      refine no_panic ?_
      obtain ⟨ct, cm, hlen⟩ := HSK.out _ ((Keeps.refl _ X).drew)
      go_region_with (fail)
      all_goals
        refine np_normal ?_
        go_wp2_with fail
        obtain ⟨u1, u2, u3, u4, u5⟩ := HFIN.out _ _ HB2.out rfl
        refine ⟨by simp, .inl ⟨_, _, rfl, run_takeDeferred u1, ?_⟩⟩
        exact ⟨_, res_cell2 rfl _ _ rfl rfl (load_var Tryz.isAgg60 _ u2.cell) (load_var Tryz.isAgg4 _ u3.cell), some (w.heap.size + 1 + 1 + 1), T, by rw [HB2.out], u4, HTS.out, fun b hb => by injection hb with hb; omega, u5⟩
  refine (wpIn_wide (n := 3)).1 ?_
  refine range_seqs (n := 3) (gf := 91) (lb := #[.pointer (some ⟨g5, 0, none⟩)]) rfl (enters_of Tryz.func91 (by kernel_rfl) rfl) (all_seq g5 n d5 B5 xs HN.out) (fun k args X h => by obtain ⟨v, r, rfl, _⟩ := h; rfl) (RestD.under _) HR5.out
    (fun k X => Hid (∃ T, RowsI w mv (w.heap.size + 1 + 1 + 1) T X ∧ rowsP mv xs = rowsGo mv ((recs xs).drop k) T ∧ T.length ≤ k))
    (fun cd k X => (cd = .exit 0 ∧ Hid (∃ T, RowsI w mv (w.heap.size + 1 + 1 + 1) T X ∧ rowsP mv xs = some T ∧ T.length ≤ k)) ∨ (cd = .ret ∧ Hid (RowsX w X ∧ rowsP mv xs = none)))
    (fun k X Y h hb => by obtain ⟨T, h1, h2⟩ := h; exact ⟨T, RowsI.under (by omega) (by omega) X Y h1 hb, h2⟩)
    (fun cd k X Y h hb => by
      rcases h with ⟨h0, T, h1, h2⟩ | ⟨h0, h1, h2⟩
      · exact .inl ⟨h0, T, RowsI.under (by omega) (by omega) X Y h1 hb, h2⟩
      · exact .inr ⟨h0, RowsX.under (by omega) X Y h1 hb, h2⟩)
    HI5
    (fun args => { tmps := #[Value.slice A n c, Value.int IntKind.u32 ↑mv, undef, Value.pointer (some { block := w.heap.size, off := 0 }), Value.pointer (some { block := w.heap.size + 1, off := 0 }), Value.pointer (some { block := w.heap.size + 1 + 1, off := 0 }), Value.pointer (some { block := w.heap.size + 1 + 1 + 1 + 1, off := 0 }), undef, args.getD 1 undef, undef, undef, undef, undef, undef, Value.map (some (w.heap.size + 1 + 1 + 1)), Value.slice A n c, Value.func (Fn.func 91) #[] #[Value.pointer (some { block := g5, off := 0 })], args.getD 0 undef, args.getD 1 undef, undef, undef, undef, undef, undef, undef, undef, undef, undef, undef, undef, undef, undef, undef, undef, undef, undef, undef, undef, undef, undef, undef, undef, undef, undef, undef, undef, undef, undef, undef, undef, undef, undef, undef, undef], defers := [] })
    (fun k args A l o h _ hl => recE_put k args A l o h hl) ?assign ?body ?done ?stop
  case assign =>
    rintro lp k args W K ⟨v, r, rfl, hr, hv⟩ hK
    gi_wp2
    exact hK
  case body =>
    rintro lp k args X hk ⟨T, hI, hP, hTk⟩ hD2 hzX ⟨v, r, rfl, hr, hv⟩
    have hv' := hv
    obtain ⟨A', c', rfl, _, _, _⟩ := hv'
    have ct := hI.t.cell
    have cm := hI.m.cell
    have hlen := run_tlen (show TabV X (some (w.heap.size + 1 + 1 + 1)) T from hI.map) 60 Tryz.underlying60 3
    have HI := Lib.hid hI
    have HP := Lib.hid hP
    have HR := Lib.hid hr
    have HV := Lib.hid hv
    have HD2 := Lib.hid hD2
    have HK := Lib.hid hk
    have hxn := HN.out
    have hT6 : T.length ≤ 1000000 := by omega
    clear hxn
    by_cases heq : T.length = mv
    · have hP2 : rowsP mv xs = some T := by rw [hP, rowsGo_stop heq]
      have HX : Hid (∃ T, RowsI w mv (w.heap.size + 1 + 1 + 1) T X ∧ rowsP mv xs = some T ∧ T.length ≤ k) := ⟨T, hI, hP2, hTk⟩
      clear hI hP hP2 hr hv hD2
      gi_wp2
      exact ⟨.inl ⟨rfl, HX⟩, Over.refl _ _⟩
    · have hP2 : rowsP mv xs = if isRow r && !thas T (keyP r) then rowsGo mv ((recs xs).drop (k + 1)) (tput T (keyP r) (valP r)) else none := by rw [hP, rowsGo_next hr heq]
      have HP2 := Lib.hid hP2
      have lk : (keyP r).length ≤ maxLen := by
        have := (cap_of_bytes hv).2.1
        have := (cap_of_bytes hv).1
        unfold keyP maxLen
        rw [List.length_take, List.length_drop]
        omega
      have lv : (valP r).length ≤ maxLen := by
        have := (cap_of_bytes hv).2.1
        have := (cap_of_bytes hv).1
        unfold valP maxLen
        rw [List.length_drop, List.length_drop]
        omega
      have hne : ¬ ((T.length : Int) = (mv : Int)) := by omega
      cases hrow : isRow r
      · have HRI : Hid (Calls Tryz.prog 75 #[.slice A' r.length c'] X fun e w' => e = .returned (.tuple #[.string ⟨#[]⟩, .agg #[.string ⟨#[]⟩], .bool false]) ∧ Keeps [] X w') := by
          have h := rowin_is A' r.length c' r X rfl hv
          rw [hrow] at h
          exact h
        rw [hrow] at HP2
        have hX0 : rowsP mv xs = none := by rw [HP2.out]; rfl
        have HX0 := Lib.hid hX0
        clear hI hP hP2 hr hv hD2 hX0 heq
        gi_wp2_with (first
          | (refine ⟨trivial, ?_⟩; gi_at_call 75; refine (CallsIn.inRound lp (callsIn_wide.2 HRI.out)).mono ?_; rintro e X1 ⟨rfl, hk1⟩; have HK1 := Lib.hid hk1; have hz1 := (boxed_keeps HI.out.t hk1).lt; have ct1 := (boxed_keeps HI.out.t hk1).cell; have hYr := (fun (v1 v2 : Value) => boxed_keeps (boxed_keeps HI.out.r hk1) (((Keeps.refl [] X1).alloc (.cells #[v1] 73)).alloc (.cells #[v2] 73))); have hYo := (fun (v1 v2 : Value) => boxed_keeps (boxed_keeps HI.out.o hk1) (((Keeps.refl [] X1).alloc (.cells #[v1] 73)).alloc (.cells #[v2] 73))); have fr3 := (fun v1 v2 => (hYr v1 v2).frozen); have fo3 := (fun v1 v2 => (hYo v1 v2).frozen); have cr3 := (fun v1 v2 => (hYr v1 v2).cell); have co3 := (fun v1 v2 => (hYo v1 v2).cell); clear hYr hYo; have hlk := (run_look (m := some (w.heap.size + 1 + 1 + 1)) ((HI.out.map.keep hk1 (by simp)).keep ((Keeps.refl [] X1).alloc (.cells #[.string ⟨#[]⟩] 73)) (by simp)) 60 Tryz.underlying60 [] (Nat.zero_le _)).1; clear hk1))
        obtain ⟨x1, x2⟩ := HI.out.ret (HK1.out.trans' (((Keeps.refl [] X1).alloc (.cells #[.string ⟨#[]⟩] 73)).alloc (.cells #[.string ⟨(tval T []).toArray⟩] 73))) (m := w5.heap.size) (by omega)
        exact ⟨.inr ⟨rfl, x1, HX0.out⟩, x2⟩
      · have HRI : Hid (Calls Tryz.prog 75 #[.slice A' r.length c'] X fun e w' => e = .returned (.tuple #[sv (keyP r), .agg #[sv (valP r)], .bool true]) ∧ Keeps [] X w') := by
          have h := rowin_is A' r.length c' r X rfl hv
          rw [hrow] at h
          exact h
        rw [hrow] at HP2
        cases htw : thas T (keyP r)
        · rw [htw] at HP2
          have HP3 : Hid (rowsP mv xs = rowsGo mv ((recs xs).drop (k + 1)) (tput T (keyP r) (valP r))) := by show _ = _; rw [HP2.out]; rfl
          clear hI hP hP2 hr hv hD2 heq HP2
          generalize keyP r = key at *
          generalize valP r = val at *
          gi_wp2_with (first
            | (refine ⟨trivial, ?_⟩; gi_at_call 75; refine (CallsIn.inRound lp (callsIn_wide.2 HRI.out)).mono ?_; rintro e X1 ⟨rfl, hk1⟩; have HK1 := Lib.hid hk1; have hz1 := (boxed_keeps HI.out.t hk1).lt; have ct1 := (boxed_keeps HI.out.t hk1).cell; have hlk := (run_look (m := some (w.heap.size + 1 + 1 + 1)) ((HI.out.map.keep hk1 (by simp)).keep ((Keeps.refl [] X1).alloc (.cells #[sv val] 73)) (by simp)) 60 Tryz.underlying60 key lk).1; rw [htw] at hlk; have ct3 := (fun (v2 : Value) => (boxed_keeps (boxed_keeps HI.out.t hk1) (((Keeps.refl [] X1).alloc (.cells #[sv val] 73)).alloc (.cells #[v2] 73))).cell); have cw3 := (fun (v2 : Value) => (boxed_keeps (Boxed.new X1 73 (sv val)) ((Keeps.refl [] _).alloc (.cells #[v2] 73))).cell); have HM3 := (fun v2 => (HI.out.map.keep hk1 (by simp)).keep (((Keeps.refl [] X1).alloc (.cells #[sv val] 73)).alloc (.cells #[v2] 73)) (by simp)); clear hk1)
            | (gi_at_mapUpdate; refine wpListIn_mapUpdate_own _ rfl _ _ _ 60 rfl 9 73 slaw Tryz.underlying60 rowElem (w.heap.size + 1 + 1 + 1) _ _ rfl (HM3 _) (by unfold maxLen; omega) _ _ _ rfl rfl (skey lk) _ [] (rowElem_mk' lv) ?_; intro w2 hout2 hg2))
          have k3 : Keeps [] X ((X1.alloc (.cells #[sv val] 73)).alloc (.cells #[sv (tval T key)] 73)) := HK1.out.trans' (((Keeps.refl [] X1).alloc _).alloc _)
          have k4 : Keeps [w.heap.size + 1 + 1 + 1] ((X1.alloc (.cells #[sv val] 73)).alloc (.cells #[sv (tval T key)] 73)) w2 := Keeps.of_grown hg2 (fun x hx => .inl (by simpa using hx.symm))
          have m2 : MapAt w2 (w.heap.size + 1 + 1 + 1) (tput T key val) := MapAt.of (by rw [put_datT] at hout2; exact hout2)
          have hI2 := (HI.out.keeps k3).put k4 m2 rfl
          have hl2 := tput_len T key val
          refine ⟨HK.out, ⟨tput T key val, hI2, HP3.out, by omega⟩, ?_, ?_⟩
          · have k5 : Keeps [w.heap.size + 1 + 1 + 1] X w2 := (k3.mono (by simp)).trans' k4
            refine ⟨(k5.cell (p := ⟨g5, 0, none⟩) (lt_of_cell HD2.out.1) (by simp; omega)).trans HD2.out.1, ?_⟩
            rcases Nat.eq_zero_or_pos xs.length with h0 | h0
            · exact bytes_none HD2.out.2 h0
            · exact HD2.out.2.keep k5 (fun b hb hm => by have := HO5.out b hb; simp at hm; omega)
          · exact (Over.of_keeps k3).trans (Over.of_some k4 (by simp; omega))
        · rw [htw] at HP2
          have hX0 : rowsP mv xs = none := by rw [HP2.out]; rfl
          have HX0 := Lib.hid hX0
          clear hI hP hP2 hr hv hD2 hX0 heq HP2
          generalize keyP r = key at *
          generalize valP r = val at *
          gi_wp2_with (first
            | (refine ⟨trivial, ?_⟩; gi_at_call 75; refine (CallsIn.inRound lp (callsIn_wide.2 HRI.out)).mono ?_; rintro e X1 ⟨rfl, hk1⟩; have HK1 := Lib.hid hk1; have hz1 := (boxed_keeps HI.out.t hk1).lt; have ct1 := (boxed_keeps HI.out.t hk1).cell; have hYr := (fun (v1 v2 : Value) => boxed_keeps (boxed_keeps HI.out.r hk1) (((Keeps.refl [] X1).alloc (.cells #[v1] 73)).alloc (.cells #[v2] 73))); have hYo := (fun (v1 v2 : Value) => boxed_keeps (boxed_keeps HI.out.o hk1) (((Keeps.refl [] X1).alloc (.cells #[v1] 73)).alloc (.cells #[v2] 73))); have fr3 := (fun v1 v2 => (hYr v1 v2).frozen); have fo3 := (fun v1 v2 => (hYo v1 v2).frozen); have cr3 := (fun v1 v2 => (hYr v1 v2).cell); have co3 := (fun v1 v2 => (hYo v1 v2).cell); clear hYr hYo; have hlk := (run_look (m := some (w.heap.size + 1 + 1 + 1)) ((HI.out.map.keep hk1 (by simp)).keep ((Keeps.refl [] X1).alloc (.cells #[sv val] 73)) (by simp)) 60 Tryz.underlying60 key lk).1; rw [htw] at hlk; clear hk1))
          obtain ⟨x1, x2⟩ := HI.out.ret (HK1.out.trans' (((Keeps.refl [] X1).alloc (.cells #[sv val] 73)).alloc (.cells #[sv (tval T key)] 73))) (m := w5.heap.size) (by omega)
          exact ⟨.inr ⟨rfl, x1, HX0.out⟩, x2⟩
  case done =>
    rintro X hNM ⟨T, hI, hP, hTk⟩ hK
    have hP2 : rowsP mv xs = some T := by rw [hP, rowsGo_end (Nat.le_refl _)]
    have hxn := HN.out
    exact HT.out X T hI hP2 (by omega) hK
  case stop =>
    rintro cd k X hk hst hK
    have hxn := HN.out
    rcases hst with ⟨rfl, T, hI, hP2, hTk⟩ | ⟨rfl, hX, hP2⟩
    · clear hK0
      refine wpIn_wide.2 ?_
      go_wp2_with fail
      exact HT.out X T hI hP2 (by omega) hK
    · have hkp : Kept w5.heap.size X (X.putObj w5.heap.size (.deferred none)) := Kept.put (Nat.le_refl _) hK rfl
      have r2 : Boxed (X.putObj w5.heap.size (.deferred none)) (w.heap.size + 1) 60 (.map none) := hkp.block _ _ hX.r (.inr rfl)
      have o2 : Boxed (X.putObj w5.heap.size (.deferred none)) (w.heap.size + 1 + 1) 4 (.bool false) := hkp.block _ _ hX.o (.inr rfl)
      have bel := hX.bel.trans ((hkp.mono (by omega)).below hX.bel.size)
      have hok : rowsOk mv xs = false := by unfold rowsOk; rw [hP2]
      have HOK := Lib.hid hok
      have HP2 := Lib.hid hP2
      clear hok hP2
      gi_wp2
      refine ⟨by simp, .inl ⟨_, _, rfl, run_takeDeferred hK, ?_⟩⟩
      exact ⟨_, res_cell2 rfl _ _ rfl rfl (load_var Tryz.isAgg60 _ r2.cell) (load_var Tryz.isAgg4 _ o2.cell), none, by rw [HOK.out], by first | exact ⟨[], rfl, fun S hS => by rw [HP2.out] at hS; (cases hS), fun b hb => by (cases hb), bel⟩ | exact ⟨⟨[], rfl, fun S hS => by rw [HP2.out] at hS; (cases hS)⟩, fun b hb => by (cases hb), bel⟩⟩

end Go.Proofs.YthgpjlmdllihmaaGreat
