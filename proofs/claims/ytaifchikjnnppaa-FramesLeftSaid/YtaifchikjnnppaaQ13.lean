/- FramesLeft, walked. -/
import Derived.Test.YtaifchikjnnppaaQ12
namespace Go.Proofs.Ytaifchikjnnppaa
open Go.RowKit Go.Shelf
set_option linter.unusedVariables false
attribute [local go_sem] Oper.semAt_some

set_option maxRecDepth 100000 in
set_option maxHeartbeats 2000000 in
theorem left_in (A : Option Addr) (len c : Nat) (nn : Int) (l : List Part) (w : World) (hl : PartsAt w A len l) (hm : len ≤ 9223372036854775807) (hfe : fewR l = true) (hnn : 0 ≤ nn) : Calls Try.prog 7 #[.slice A len c, .int .i64 nn] w fun e w' => e = .returned (.bool true) ∧ Below w.heap.size w w' := by
  obtain ⟨hl12, h500⟩ := fewR_true hfe
  have hlen := hl.len
  obtain ⟨iu, hiu, hzu0, hzu1, hzu2⟩ := info_parts u8_of
  have HF := Lib.hid (fun w1 hk => few3_is A len c l w1 (hl.keep hk) hm)
  rw [hfe] at HF
  have H500 := Lib.hid h500
  have HL := Lib.hid hl
  have b0 := ((Boxed.new w 25 (.slice A len c)).alloc (.cells #[.int .i64 nn] 3)).alloc (.cells #[.bool false] 4)
  have b1 := (Boxed.new (w.alloc (.cells #[.slice A len c] 25)) 3 (.int .i64 nn)).alloc (.cells #[.bool false] 4)
  have b2 := Boxed.new ((w.alloc (.cells #[.slice A len c] 25)).alloc (.cells #[.int .i64 nn] 3)) 4 (.bool false)
  simp only [World.size_alloc] at b1 b2
  obtain ⟨W2, hW2⟩ : ∃ W2, ((w.alloc (.cells #[.slice A len c] 25)).alloc (.cells #[.int .i64 nn] 3)).alloc (.cells #[.bool false] 4) = W2 := ⟨_, rfl⟩
  have hz2 : W2.heap.size = w.heap.size + 3 := by rw [← hW2]; simp
  have hk2 : Keeps [] w W2 := by rw [← hW2]; exact (((Keeps.refl [] w).alloc _).alloc _).alloc _
  rw [hW2] at b0 b1 b2
  have HB0 := Lib.hid b0
  have HB1 := Lib.hid b1
  have HB2 := Lib.hid b2
  have HK2 := Lib.hid hk2
  have HS0 : Hid (Bld W2 W2 (.slice none 0 0) l 0) := ⟨by simpa [rowOf, offs, joinF] using World.ownsRow_nil W2 W2.heap.size 5 1, Keeps.refl _ _⟩
  refine (callsIn_wide (n := 3)).1 ?_
  refine callsIn_of_wp_marks Try.func7 rfl trivial ?_ rfl
  simp only [Try.ntmps7, List.size_toArray, List.length_cons, List.length_nil, Nat.reduceAdd, Nat.reduceSub, Array.replicate_succ, Array.replicate_zero, List.push_toArray, List.append_toArray, List.nil_append, List.cons_append]
  refine wpIn_wide.2 ?_
  clear hl hfe hk2
  have c0 := b0.cell
  have c1 := b1.cell
  clear b0 b1 b2
  go_wp2_with (go_at_call 12; refine (HF.out _ HK2.out).mono ?_; rintro e w2 ⟨rfl, rfl⟩)
  go_loopw [5, 6] (fun v i wr => ∃ j : Nat, i = .int .i64 (j : Int) ∧ j ≤ len ∧ Hid (Bld W2 wr v l j)) (fun _ i _ => len - (intOf i).toNat)
  case atStart => exact ⟨0, rfl, Nat.zero_le _, HS0⟩
  case round =>
    obtain ⟨j, rfl, hj, HS⟩ := hrel
    have bx := boxed_keeps HB0.out HS.out.keep
    have cx := bx.cell
    have hof := offs_few H500.out j
    have hos := HS.out.own
    obtain ⟨VA, vc, rfl⟩ := own_slice hos
    clear bx hos
    by_cases hlt : j < len
    · have hx : l[j]? = some (l[j]'(by omega)) := List.getElem?_eq_getElem (by omega)
      have htk : l.take (j + 1) = l.take j ++ [l[j]'(by omega)] := List.take_succ_eq_append_getElem (by omega)
      have hx5 := H500.out _ (List.getElem_mem (show j < l.length by omega))
      obtain ⟨b, o, rfl, cr, hb, hxm⟩ := (HL.out.keep (HK2.out.trans' HS.out.keep)).at_ j _ hx
      generalize l[j]'(by omega) = x at *
      have HRF := Lib.hid (rframe x.A x.bs.length x.c x.bs wr rfl hb (by omega))
      have HTK := Lib.hid htk
      have lf : ((frameOf x.bs).map bv).length = x.bs.length + 12 := by simp [frameOf_len]
      have LF := Lib.hid lf
      have hzr := HS.out.keep.size
      clear hb hx htk lf
      go_wp2_with (first
        | (go_at_call 14; refine HRF.out.mono ?_; rintro e w1 ⟨RA, rc, rfl, ro, hk1⟩; have HRO := Lib.hid ro; have HK1 := Lib.hid hk1; have HO1 := Lib.hid (own_keep HS.out.own hk1 (by simp)); have hz1 := hk1.size; clear ro hk1)
        | (at_builtin; refine wpList_append_opt rfl (.tmp 27) (.tmp 32) 22 rfl W2.heap.size 5 iu _ 1 1 Try.underlying22 hiu hzu0 hzu1 hzu2 rfl (by decide) (.slice VA (offs (rowOf (l.take j))) vc) (offs (rowOf (l.take j))) ((joinF (rowOf (l.take j))).map bv) rfl HO1.out RA (x.bs.length + 12) rc ((frameOf x.bs).map bv) rfl (by rw [LF.out, Nat.mul_one]) (Src.of_own HRO.out) bvs_one (by unfold maxLen; omega) (by omega) (by omega) ?_; intro v2 w2 ho2 hg2 hs2; have HN := Lib.hid (HS.out.next HTK.out HK1.out ho2 hg2); clear ho2 hg2 hs2))
      go_roundw
      case rel => exact ⟨j + 1, by go_num, by omega, HN⟩
      case measure => simp [intOf]; omega
    · obtain rfl : j = len := by omega
      have htl : l.take j = l := List.take_of_length_le (by omega)
      rw [htl] at HS hof
      have hN : offs (rowOf l) ≤ 6144 := by omega
      obtain ⟨N, hNd⟩ : ∃ N, offs (rowOf l) = N := ⟨_, rfl⟩
      have hjl : (joinF (rowOf l)).length = N := by rw [joinF_len, hNd]
      have O0 := HS.out.own
      rw [htl, hNd] at O0
      rw [htl, hNd]
      have hz0 := HS.out.keep.size
      have K0 := Lib.hid (HK2.out.trans' HS.out.keep)
      have BI0 := Lib.hid (boxed_keeps HB0.out HS.out.keep)
      have BN0 := Lib.hid (boxed_keeps HB1.out HS.out.keep)
      have BR0 := Lib.hid (boxed_keeps HB2.out HS.out.keep)
      have HO0 := Lib.hid O0
      have h3r := recs_joinF (rowOf l) [] (rowOf_short H500.out)
      rw [List.append_nil] at h3r
      have hrn : recs ([] : List UInt8) = [] := recs_nil (by decide)
      rw [hrn, List.append_nil] at h3r
      have HRR := Lib.hid h3r
      have HXL := Lib.hid hjl
      have hbx := (own_bytes O0 hjl).1
      have HBX := Lib.hid hbx
      clear h3r O0 hjl hbx
      go_wp2_with (first
        | (go_at_call 17; refine (all_is VA N vc _ wr HXL.out HBX.out (by omega)).mono ?_; rintro e w3 ⟨g3, B3, d3, rfl, hr3, hg3, ho3, hk3⟩; have HR3 := Lib.hid hr3; have HO3 := Lib.hid ho3; have HK3 := Lib.hid hk3; have hnn3 := all_not_nil g3; clear hr3 ho3 hk3))
      have HNN := Lib.hid hnn3
      have HOW := Lib.hid (own_keep HO0.out HK3.out (by simp))
      have hz3 := HK3.out.size
      have hgz : g3 < w3.heap.size := lt_of_cell HR3.out.1
      have HGB : Hid (0 < (joinF (rowOf l)).length → ∀ b, (Value.slice B3 N d3).ownBlock = some b → b < w3.heap.size) := fun h0 b hb => HR3.out.2.lt h0 b hb
      have HAP : Hid (0 < N → ∀ b, (Value.slice VA N vc).ownBlock = some b → W2.heap.size ≤ b → b < g3 ∧ ∀ b', (Value.slice B3 N d3).ownBlock = some b' → b < b') := fun h0 b hb _ => by
        have h1 := HBX.out.lt (by rw [HXL.out]; exact h0) b hb
        exact ⟨by omega, fun b' hb' => by have := HO3.out b' hb'; omega⟩
      have HKA := Lib.hid (HS.out.keep.trans' HK3.out)
      clear hnn3
      go_loopw [8] (fun i wz => ∃ q : Nat, i = .int .i64 (q : Int) ∧ q ≤ N ∧ (N = 0 ∧ wz = w3 ∨ 0 < N ∧ ∃ g, VA = some ⟨g, 0, none⟩ ∧ W2.heap.size ≤ g ∧ N ≤ vc ∧ vc ≤ 9223372036854775807 ∧ Hid (Anys w3 wz g N))) (fun i _ => N - (intOf i).toNat)
      case atStart =>
        refine ⟨0, rfl, Nat.zero_le _, ?_⟩
        rcases Nat.eq_zero_or_pos N with h0 | h0
        · exact .inl ⟨h0, rfl⟩
        · obtain ⟨g, e1, e2, e3, e4, e5⟩ := own_anys HOW.out HXL.out h0
          exact .inr ⟨h0, g, e1, e2, e4, e5, e3⟩
      case round =>
        obtain ⟨q, rfl, hq, hz⟩ := hrel
        by_cases hlt2 : q < N
        · obtain ⟨h0, _⟩ | ⟨h0, g, rfl, hg, hvc, hvc2, HA⟩ := hz
          · omega
          obtain ⟨u, hu, c8⟩ := HA.out.cell q hlt2
          have f8 := HA.out.free q hlt2
          have HX := Lib.hid (HA.out.next (j := q) (u := 0) (by decide))
          go_wp2_with fail
          go_roundw
          case rel => exact ⟨q + 1, by go_num, by omega, .inr ⟨h0, g, rfl, hg, hvc, hvc2, HX⟩⟩
          case measure => simp [intOf]; omega
        · obtain rfl : q = N := by omega
          have hkz : ∃ bs, Keeps bs w3 wr ∧ ∀ b ∈ bs, W2.heap.size ≤ b ∧ b < g3 ∧ (0 < (joinF (rowOf l)).length → ∀ b', (Value.slice B3 q d3).ownBlock = some b' → b < b') := by
            rcases hz with ⟨_, rfl⟩ | ⟨h0, g, rfl, hg, _, _, HA⟩
            · exact ⟨[], Keeps.refl _ _, by simp⟩
            · refine ⟨[g], HA.out.keep, fun b hb => ?_⟩
              obtain rfl : b = g := by simpa using hb
              obtain ⟨e1, e2⟩ := HAP.out h0 b rfl hg
              exact ⟨hg, e1, fun _ => e2⟩
          obtain ⟨bs, kz, hbs⟩ := hkz
          have BX : ∀ {B : Nat} {t : TypeId} {v : Value}, Boxed W2 B t v → Boxed wr B t v := fun {B t v} h => (kz.block B (Nat.lt_of_lt_of_le h.lt HKA.out.size) (fun hm => by have := (hbs B hm).1; have := h.lt; omega)).trans (boxed_keeps h HKA.out)
          have DZ : RestD g3 B3 q d3 (joinF (rowOf l)) wr := by
            refine ⟨(kz.cell (by show g3 < _; exact hgz) (fun hm => by have := (hbs _ hm).2.1; simp at this)).trans HR3.out.1, ?_⟩
            rcases Nat.eq_zero_or_pos (joinF (rowOf l)).length with h0 | h0
            · exact HR3.out.2.none h0
            · exact HR3.out.2.keep kz (fun b hb hm => by have := (hbs b hm).2.2 h0 b hb; omega)
          have BZ : Below w.heap.size w wr := (HK2.out.below (Nat.le_refl _) (by simp)).trans ((HKA.out.below (by omega) (by simp)).trans (kz.below (by have := HKA.out.size; omega) (fun b hb => by have := (hbs b hb).1; omega)))
          have HG9 := Boxed.new wr 3 (.int .i64 0)
          have HI0 : Hid (LeftI w A j c nn wr.heap.size 0 [] g3 B3 q d3 (joinF (rowOf l)) (wr.alloc (.cells #[.int .i64 0] 3))) := ⟨HG9, (BX HB0.out).alloc _, (BX HB1.out).alloc _, (BX HB2.out).alloc _, BZ.trans (((Keeps.refl [] wr).alloc _).below BZ.size (by simp)), by simp, (RestD.under 0).keeps DZ ((Keeps.refl [] wr).alloc _)⟩
          have hz33 : w3.heap.size ≤ wr.heap.size := kz.size
          clear kz hbs BX DZ BZ HG9 hz
          -- TURNS
          go_wp2_with fail
          have hmx : Try.prog.follows .mixedOrders = true := by kernel_rfl
          refine wp_loop (fun a W => ∃ (t : Int) (ms : List Nat) (g9 : Nat) (v10 v12 v45 v46 v47 v48 v49 v50 v51 v52 v53 v54 v55 v56 v57 v58 v59 v60 v61 v62 v63 v64 v65 v66 v67 v68 v69 v70 v71 v72 v73 v74 v75 v76 v77 v78 v79 v80 v81 v82 v83 v84 v85 : Value), a = { tmps := #[Value.slice A j c, Value.int IntKind.i64 nn, Value.pointer (some { block := w.heap.size, off := 0 }), Value.pointer (some { block := w.heap.size + 1, off := 0 }), Value.pointer (some { block := w.heap.size + 1 + 1, off := 0 }), Value.slice VA q vc, Value.int IntKind.i64 ↑j, Value.func (Fn.func 28) #[] #[Value.pointer (some { block := g3, off := 0 })], Value.int IntKind.i64 ↑q, Value.pointer (some { block := g9, off := 0 }), v10, undef, v12, Value.slice A j c, Value.bool true, Value.bool false, Value.bool false, Value.int IntKind.i64 nn, Value.bool (decide (nn < 0)), Value.bool (decide (nn < 0)), undef, Value.int IntKind.i64 ↑j, Value.slice A j c, Value.int IntKind.i64 ↑j, Value.bool false, u25, u26, u27, u28, u29, u30, u31, u32, u33, Value.slice VA q vc, Value.func (Fn.func 28) #[] #[Value.pointer (some { block := g3, off := 0 })], Value.int IntKind.i64 ↑q, Value.slice VA q vc, Value.int IntKind.i64 ↑q, Value.bool false, u40, u41, u42, u43, u44, v45, v46, v47, v48, v49, v50, v51, v52, v53, v54, v55, v56, v57, v58, v59, v60, v61, v62, v63, v64, v65, v66, v67, v68, v69, v70, v71, v72, v73, v74, v75, v76, v77, v78, v79, v80, v81, v82, v83, v84, v85, undef], defers := ms.map (fun d => ({ target := .collected d, args := #[] } : Deferred)) } ∧ Hid (t = (ms.length : Int) ∧ ms.length ≤ 2 ∧ ms.Nodup ∧ (∀ d ∈ ms, w.heap.size ≤ d) ∧ w.heap.size + 2 < g9 ∧ g3 < g9 ∧ (0 < (joinF (rowOf l)).length → ∀ b, (Value.slice B3 q d3).ownBlock = some b → b < g9) ∧ LeftI w A j c nn g9 t ms g3 B3 q d3 (joinF (rowOf l)) W)) (fun a _ => 2 - a.defers.length) ?first ?turns
          case first =>
            refine ⟨0, [], wr.heap.size, _, _, _, _, _, _, _, _, _, _, _, _, _, _, _, _, _, _, _, _, _, _, _, _, _, _, _, _, _, _, _, _, _, _, _, _, _, _, _, _, _, _, _, rfl, rfl, by decide, by simp, by simp, by omega, by omega, fun h0 b hb => Nat.lt_of_lt_of_le (HGB.out h0 b hb) hz33, HI0.out⟩
          case turns =>
            rintro a W ⟨t, ms, g9, v10, v12, v45, v46, v47, v48, v49, v50, v51, v52, v53, v54, v55, v56, v57, v58, v59, v60, v61, v62, v63, v64, v65, v66, v67, v68, v69, v70, v71, v72, v73, v74, v75, v76, v77, v78, v79, v80, v81, v82, v83, v84, v85, rfl, HT⟩
            obtain ⟨hT, hml, hmd, hmw, h9, h39, hB9, hI⟩ : Hid (t = (ms.length : Int)) ∧ ms.length ≤ 2 ∧ ms.Nodup ∧ (∀ d ∈ ms, w.heap.size ≤ d) ∧ w.heap.size + 2 < g9 ∧ g3 < g9 ∧ (0 < (joinF (rowOf l)).length → ∀ b, (Value.slice B3 q d3).ownBlock = some b → b < g9) ∧ Hid (LeftI w A j c nn g9 t ms g3 B3 q d3 (joinF (rowOf l)) W) := HT.out
            have k9 := hI.out.t.cell
            have hmz : ∀ d ∈ ms, d < W.heap.size := fun d hd => lt_of_heap (hI.out.marks d hd)
            have h9z : g9 < W.heap.size := hI.out.t.lt
            have h3z : g3 < W.heap.size := by omega
            clear HT
            by_cases h2 : t < 2
            · have hnn3 := HNN.out
              go_wp2_with fail
              obtain ⟨W5, hW5⟩ : ∃ W5, W.alloc (.cells #[.int .i64 0] 3) = W5 := ⟨_, rfl⟩
              have k5 : Keeps [] W W5 := by rw [← hW5]; exact (Keeps.refl [] W).alloc _
              have hz5 : W5.heap.size = W.heap.size + 1 := by rw [← hW5]; simp
              have b5 : Boxed W5 W.heap.size 3 (.int .i64 0) := by rw [← hW5]; exact Boxed.new W 3 _
              have hI5 : Hid (LeftI w A j c nn g9 t ms g3 B3 q d3 (joinF (rowOf l)) W5) := hI.out.keeps k5
              have hu : ∀ (u : Int), Under W5.heap.size (fun X => Boxed X W.heap.size 3 (.int .i64 u) ∧ Hid (LeftI w A j c nn g9 t ms g3 B3 q d3 (joinF (rowOf l)) X)) := fun u X Y h hb => ⟨boxed_under X Y h.1 hb, h.2.out.under (fun d hd => by have := hmz d hd; omega) (by have := hmw; omega) hb⟩
              rw [hW5]
              clear k9 hnn3 hI
              refine (wpIn_wide (n := 3)).1 ?_
              refine range_seqs (n := 3) (gf := 28) (lb := #[.pointer (some ⟨g3, 0, none⟩)]) rfl (enters_of Try.func28 (by kernel_rfl) rfl) (all_seq g3 q d3 B3 (joinF (rowOf l)) HXL.out) (fun k args X h => by obtain ⟨v, r, rfl, _⟩ := h; rfl) (RestD.under _) hI5.out.data
                (fun k X => Boxed X W.heap.size 3 (.int .i64 (k : Nat)) ∧ Hid (LeftI w A j c nn g9 t ms g3 B3 q d3 (joinF (rowOf l)) X))
                (fun cd k X => (cd = .exit 6 ∧ t = 0) ∧ (Boxed X W.heap.size 3 (.int .i64 (k + 1 : Nat)) ∧ Hid (LeftI w A j c nn g9 t ms g3 B3 q d3 (joinF (rowOf l)) X)))
                (fun k => hu _)
                (fun cd k X Y h hb => ⟨h.1, hu _ X Y h.2 hb⟩)
                ⟨b5, hI5⟩
                (fun args => { tmps := #[Value.slice A j c, Value.int IntKind.i64 nn, Value.pointer (some { block := w.heap.size, off := 0 }), Value.pointer (some { block := w.heap.size + 1, off := 0 }), Value.pointer (some { block := w.heap.size + 1 + 1, off := 0 }), Value.slice VA q vc, Value.int IntKind.i64 ↑j, Value.func (Fn.func 28) #[] #[Value.pointer (some { block := g3, off := 0 })], Value.int IntKind.i64 ↑q, Value.pointer (some { block := g9, off := 0 }), Value.pointer (some { block := W.heap.size, off := 0 }), undef, args.getD 1 undef, Value.slice A j c, Value.bool true, Value.bool false, Value.bool false, Value.int IntKind.i64 nn, Value.bool (decide (nn < 0)), Value.bool (decide (nn < 0)), undef, Value.int IntKind.i64 ↑j, Value.slice A j c, Value.int IntKind.i64 ↑j, Value.bool false, u25, u26, u27, u28, u29, u30, u31, u32, u33, Value.slice VA q vc, Value.func (Fn.func 28) #[] #[Value.pointer (some { block := g3, off := 0 })], Value.int IntKind.i64 ↑q, Value.slice VA q vc, Value.int IntKind.i64 ↑q, Value.bool false, u40, u41, u42, u43, u44, Value.int IntKind.i64 t, Value.bool true, v47, v48, Value.func (Fn.func 28) #[] #[Value.pointer (some { block := g3, off := 0 })], Value.bool false, Value.func (Fn.func 28) #[] #[Value.pointer (some { block := g3, off := 0 })], args.getD 0 undef, args.getD 1 undef, v54, v55, v56, v57, v58, v59, v60, v61, v62, v63, v64, v65, v66, v67, v68, v69, v70, v71, v72, v73, v74, v75, v76, v77, v78, v79, v80, v81, v82, v83, v84, v85, undef], defers := [] })
                (fun k args A l o h _ hl => recE_put k args A l o h hl) ?assign ?body ?done ?stop
              case assign =>
                rintro lp k args W K ⟨v, r, rfl, hr, hv⟩ hK
                gi_wp2
                exact hK
              case body =>
                rintro lp k args X hk ⟨x10, hIX⟩ hD2 hzX ⟨v, r, rfl, hr, hv⟩
                have hv' := hv
                obtain ⟨A', c', rfl, _, _, _⟩ := hv'
                have kk := x10.cell
                have fk := x10.frozen
                have kt := hIX.out.t.cell
                have kl := hIX.out.l.cell
                have kn := hIX.out.n.cell
                have s1 := fun nq => conv_bytes (hv.grow (w' := X.drewN nq) ((Keeps.refl [] X).drewN nq))
                have HX10 := Lib.hid x10
                have FIN : Hid (∀ nq, Boxed ((X.drewN nq).setCell ⟨W.heap.size, 0, none⟩ (.int .i64 ((k : Int) + 1))) W.heap.size 3 (.int .i64 ((k + 1 : Nat) : Int)) ∧ Hid (LeftI w A j c nn g9 t ms g3 B3 q d3 (joinF (rowOf l)) ((X.drewN nq).setCell ⟨W.heap.size, 0, none⟩ (.int .i64 ((k : Int) + 1)))) ∧ Over W5.heap.size X ((X.drewN nq).setCell ⟨W.heap.size, 0, none⟩ (.int .i64 ((k : Int) + 1)))) := fun nq => by
                  have kdr : Keeps [] X (X.drewN nq) := (Keeps.refl [] X).drewN nq
                  have hcast : (.int .i64 ((k : Int) + 1) : Value) = .int .i64 ((k + 1 : Nat) : Int) := by simp
                  refine ⟨?_, (hIX.out.keeps kdr).other h9z (by omega) (fun d hd => by have := hmz d hd; omega) h3z (fun h0 b hb => by have := hB9 h0 b hb; omega), (Over.of_keeps kdr).trans (over_set _ _ (by omega))⟩
                  rw [← hcast]
                  exact (boxed_keeps HX10.out kdr).set _
                have hkl : k < j := by
                  have h1 := hk
                  rw [HRR.out] at h1
                  simpa [rowOf, hlen] using h1
                have hx : l[k]? = some (l[k]'(by omega)) := List.getElem?_eq_getElem (by omega)
                obtain ⟨b, o, rfl, cr, hb, hxm⟩ := (HL.out.keep (Keeps.of_below hIX.out.bel)).at_ k _ hx
                have hrx : r = (l[k]'(by omega)).bs := by
                  rw [HRR.out, rowOf_get hx] at hr
                  exact (Option.some.inj hr).symm
                generalize l[k]'(by omega) = x at *
                subst hrx
                have s2 := fun nq => conv_bytes (hb.grow (w' := X.drewN nq) ((Keeps.refl [] X).drewN nq))
                have hd : decide (j ≤ k) = false := decide_eq_false (by omega)
                have hkz : (k : Int) < (j : Int) := by omega
                have hkb : k < 100000 := by omega
                have hne1 : W.heap.size ≠ w.heap.size + 1 := by omega
                have hne2 : W.heap.size ≠ g9 := by omega
                have HKJ := Lib.hid hk
                clear hb hx x10 hD2 hv hk
                gi_wp2
                refine quiet_in_round hmx (by kernel_rfl) (by kernel_rfl) (fun ⟨_, _, h⟩ => h) ?_
                repeat (go_big_quiet_step (fail))
                refine wpQuiet_nil ?_
                rintro _ ⟨nq, rfl⟩
                obtain ⟨f1, f2, f3⟩ := FIN.out nq
                have HF1 := Lib.hid f1
                have HF3 := Lib.hid f3
                clear f1 f3
                by_cases hge : nn ≤ (k : Int) + 1
                · by_cases ht0 : t = 0
                  · gi_wp2
                    exact ⟨⟨⟨rfl, ht0⟩, HF1.out, f2⟩, HF3.out⟩
                  · gi_wp2
                    exact ⟨HKJ.out, ⟨HF1.out, f2⟩, f2.out.data, HF3.out⟩
                · have hge2 : (k : Int) + 1 < nn := by omega
                  gi_wp2
                  have f3 := HF3.out
                  rw [hz5] at f3
                  exact ⟨HKJ.out, ⟨HF1.out, f2⟩, f2.out.data, f3⟩
              case done =>
                rintro X hNM ⟨x10, hIX⟩ hK
                have hNj : (recs (joinF (rowOf l))).length = j := by rw [HRR.out]; simpa [rowOf] using hlen
                rw [hNj] at x10
                have hX1 : W5.heap.size < X.heap.size := lt_of_heap hK
                have HKK := Lib.hid hK
                have kk := x10.cell
                have kt := hIX.out.t.cell
                have kl := hIX.out.l.cell
                have HX10 := Lib.hid x10
                have hNX : Hid (∀ t', LeftI w A j c nn X.heap.size t' (W5.heap.size :: ms) g3 B3 q d3 (joinF (rowOf l)) (X.alloc (.cells #[.int .i64 t'] 3))) := fun t' => hIX.out.next hK t'
                have hb1 : w.heap.size + 2 < X.heap.size ∧ g3 < X.heap.size := by omega
                have hWX : W.heap.size < X.heap.size := by omega
                have htt := hT.out
                have hlm : ms.length < 2 := by have := hT.out; omega
                have hmw2 : ∀ d ∈ W5.heap.size :: ms, w.heap.size ≤ d := fun d hd => by
                  rcases List.mem_cons.1 hd with rfl | hd
                  · omega
                  · exact hmw d hd
                have hmnd : (W5.heap.size :: ms).Nodup := List.nodup_cons.2 ⟨fun hm => by have := hmz _ hm; omega, hmd⟩
                clear x10 hK hz5
                by_cases ht1 : t = 1
                · clear htt
                  go_wp2_with fail
                  refine ⟨⟨2, W5.heap.size :: ms, X.heap.size, _, _, _, _, _, _, _, _, _, _, _, _, _, _, _, _, _, _, _, _, _, _, _, _, _, _, _, _, _, _, _, _, _, _, _, _, _, _, _, _, _, _, _, rfl, ⟨by have := hT.out; simp; omega, by simp; omega, hmnd, hmw2, hb1.1, hb1.2, fun h0 b hb => by have := hB9 h0 b hb; omega, hNX.out 2⟩⟩, by simp; omega⟩
                · have ht0 : t = 0 := by omega
                  clear htt
                  go_wp2_with fail
                  refine ⟨⟨1, W5.heap.size :: ms, X.heap.size, _, _, _, _, _, _, _, _, _, _, _, _, _, _, _, _, _, _, _, _, _, _, _, _, _, _, _, _, _, _, _, _, _, _, _, _, _, _, _, _, _, _, _, rfl, ⟨by have := hT.out; simp; omega, by simp; omega, hmnd, hmw2, hb1.1, hb1.2, fun h0 b hb => by have := hB9 h0 b hb; omega, hNX.out 1⟩⟩, by simp; omega⟩
              case stop =>
                rintro cd k X hk ⟨⟨rfl, ht0⟩, x10, hIX⟩ hK
                have hX1 : W5.heap.size < X.heap.size := lt_of_heap hK
                have HKK := Lib.hid hK
                have kt := hIX.out.t.cell
                have hNX : Hid (∀ t', LeftI w A j c nn X.heap.size t' (W5.heap.size :: ms) g3 B3 q d3 (joinF (rowOf l)) (X.alloc (.cells #[.int .i64 t'] 3))) := fun t' => hIX.out.next hK t'
                have hb1 : w.heap.size + 2 < X.heap.size ∧ g3 < X.heap.size := by omega
                have hWX : W.heap.size < X.heap.size := by omega
                have htt := hT.out
                have hlm : ms.length < 2 := by have := hT.out; omega
                have hmw2 : ∀ d ∈ W5.heap.size :: ms, w.heap.size ≤ d := fun d hd => by
                  rcases List.mem_cons.1 hd with rfl | hd
                  · omega
                  · exact hmw d hd
                have hmnd : (W5.heap.size :: ms).Nodup := List.nodup_cons.2 ⟨fun hm => by have := hmz _ hm; omega, hmd⟩
                have ht1 : ¬ t = 1 := by omega
                clear x10 hK hz5 htt
                refine wpIn_wide.2 ?_
                go_wp2_with fail
                refine ⟨⟨1, W5.heap.size :: ms, X.heap.size, _, _, _, _, _, _, _, _, _, _, _, _, _, _, _, _, _, _, _, _, _, _, _, _, _, _, _, _, _, _, _, _, _, _, _, _, _, _, _, _, _, _, _, rfl, ⟨by have := hT.out; simp; omega, by simp; omega, hmnd, hmw2, hb1.1, hb1.2, fun h0 b hb => by have := hB9 h0 b hb; omega, hNX.out 1⟩⟩, by simp; omega⟩
            · obtain ⟨d1, d0, rfl⟩ : ∃ d1 d0, ms = [d1, d0] := by
                have hl2 : ms.length = 2 := by have := hT.out; omega
                match ms, hl2 with
                | [a, b], _ => exact ⟨a, b, rfl⟩
              go_wp2_with fail
              refine (known3_any W).mono ?_
              rintro e w7 ⟨rfl, hk7⟩
              have hI7 := hI.out.keeps hk7
              have c7 := hI7.r.cell
              have f7 := hI7.r.frozen
              have HI7 := Lib.hid hI7
              clear hk7 hI7
              go_wp2_with fail
              have y7 : Boxed (w7.setCell ⟨w.heap.size + 1 + 1, 0, none⟩ (.bool true)) (w.heap.size + 1 + 1) 4 (.bool true) := HI7.out.r.set (.bool true)
              have hz7 := HI7.out.bel.size
              have hbs := below_set (n := w.heap.size) (b := w.heap.size + 1 + 1) w7 (.bool true) (by omega)
              have hmk : ∀ d ∈ [d1, d0], (w7.setCell ⟨w.heap.size + 1 + 1, 0, none⟩ (.bool true)).heap[d]? = some (.deferred (some [])) := fun d hd => by
                have hne : d ≠ w.heap.size + 1 + 1 := fun he => by
                  have h1 := HI7.out.marks d hd
                  have h2 : w7.heap[w.heap.size + 1 + 1]? = _ := HI7.out.r
                  rw [he, h2] at h1
                  cases h1
                exact (Below.heap_setCell w7 ⟨w.heap.size + 1 + 1, 0, none⟩ _ _ (by show d ≠ w.heap.size + 1 + 1; exact hne)).trans (HI7.out.marks d hd)
              have m1 := hmk d1 (by simp)
              have m0 := hmk d0 (by simp)
              have hd10 : d0 ≠ d1 := by
                have := hmd
                simp at this
                omega
              have hkp1 : Kept w.heap.size (w7.setCell ⟨w.heap.size + 1 + 1, 0, none⟩ (.bool true)) ((w7.setCell ⟨w.heap.size + 1 + 1, 0, none⟩ (.bool true)).putObj d1 (.deferred none)) := Kept.put (hmw d1 (by simp)) m1 rfl
              have m0' : ((w7.setCell ⟨w.heap.size + 1 + 1, 0, none⟩ (.bool true)).putObj d1 (.deferred none)).heap[d0]? = some (.deferred (some [])) := (World.putObj_heap_other hd10).trans m0
              have hkp2 : Kept w.heap.size ((w7.setCell ⟨w.heap.size + 1 + 1, 0, none⟩ (.bool true)).putObj d1 (.deferred none)) (((w7.setCell ⟨w.heap.size + 1 + 1, 0, none⟩ (.bool true)).putObj d1 (.deferred none)).putObj d0 (.deferred none)) := Kept.put (hmw d0 (by simp)) m0' rfl
              refine ⟨by simp, .inl ⟨_, _, rfl, run_takeDeferred m1, ⟨by simp, .inl ⟨_, _, rfl, run_takeDeferred m0', ?_⟩⟩⟩⟩
              refine ⟨_, results_cell1 rfl _ _ rfl (fun w hc => load_var Try.isAgg4 w hc) (hkp2.cell (hkp1.cell y7.cell)), ?_⟩
              exact ⟨rfl, ((HI7.out.bel.trans hbs).trans (hkp1.below (by have := hbs.size; omega))).trans (hkp2.below (by have := hbs.size; have := hkp1.size; omega))⟩

end Go.Proofs.Ytaifchikjnnppaa
