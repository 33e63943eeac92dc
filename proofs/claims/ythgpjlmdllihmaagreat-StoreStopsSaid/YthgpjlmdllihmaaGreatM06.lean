/- Texts of one proof, laid together: F8. -/
import Derived.Test.YthgpjlmdllihmaaGreatM05
/- frames: records, which share the bytes, gone over. -/
namespace Go.Proofs.YthgpjlmdllihmaaGreat
open Go.RowKit Go.Shelf
set_option linter.unusedVariables false
attribute [local go_sem] Oper.semAt_some

theorem Over.of_keeps {n : Nat} {w w' : World} (h : Keeps [] w w') : Over n w w' := ⟨h.os, h.tape, h.output, h.size, fun k _ hk => h.block k hk (by simp)⟩
theorem Over.drew {n : Nat} {w w' : World} (h : Over n w w') : Over n w w'.drew := ⟨h.os, h.tape, h.output, h.size, h.block⟩
theorem Kept.of_keeps {n : Nat} {w w' : World} (h : Keeps [] w w') : Kept n w w' := ⟨h.os, h.tape, h.output, h.size, fun k o ho _ => (h.block k (lt_of_heap ho) (by simp)).trans ho⟩

/-- Bytes read the same where cells lie as they lay. -/
theorem BytesAt.under {v : Value} {xs : List UInt8} (n : Nat) : Under n (fun W => BytesAt W v xs) := by
  intro A B hA hb
  obtain ⟨a, c, rfl, h1, h2, h3⟩ := hA
  refine ⟨a, c, rfl, h1, h2, fun hp => ?_⟩
  obtain ⟨b, o, rfl, hc⟩ := h3 hp
  exact ⟨b, o, rfl, fun i u hu => hb.cell (hc i u hu)⟩
theorem RestD.under {B c m : Nat} {A : Option Addr} {xs : List UInt8} (n : Nat) : Under n (RestD B A m c xs) :=
  fun X Y h hb => ⟨hb.cell h.1, BytesAt.under n X Y h.2 hb⟩
theorem Under.mono {n m : Nat} {I : World → Prop} (h : Under n I) (hm : n ≤ m) : Under m I := fun A B hA hb => h A B hA (hb.mono hm)
theorem Under.keeps {n : Nat} {I : World → Prop} {A B : World} (h : Under n I) (hA : I A) (hk : Keeps [] A B) : I B := h A B hA (Kept.of_keeps hk)
theorem BytesAt.put {A : World} {v : Value} {xs : List UInt8} {l : Nat} {o o' : Obj} (h : BytesAt A v xs) (hl : A.heap[l]? = some o') (ho : o'.isCells = false) : BytesAt (A.putObj l o) v xs := by
  obtain ⟨a, c, rfl, h1, h2, h3⟩ := h
  refine ⟨a, c, rfl, h1, h2, fun hp => ?_⟩
  obtain ⟨b, q, rfl, hc⟩ := h3 hp
  refine ⟨b, q, rfl, fun i u hu => ?_⟩
  have hci := hc i u hu
  obtain ⟨o2, h5, h6⟩ := cells_of_cell hci
  have hne : b ≠ l := by
    rintro rfl
    rw [hl] at h5
    cases h5
    rw [ho] at h6
    cases h6
  exact (World.cell?_of_block (a := ⟨b, q + i, none⟩) (World.putObj_heap_other hne)).trans hci

/-- The k'th record, with its place. -/
def RecE (xs : List UInt8) (k : Nat) (args : Array Value) (W : World) : Prop := ∃ v r, args = #[.int .i64 (plc xs k : Nat), v] ∧ (recs xs)[k]? = some r ∧ BytesAt W v r

theorem restE_put {xs : List UInt8} (k : Nat) (args : Array Value) (A : World) (l : Nat) (o : Obj) (h : RestE xs k args A) (hl : ∃ o', A.heap[l]? = some o' ∧ o'.isCells = false) : RestE xs k args (A.putObj l o) := by
  obtain ⟨v, h1, h2⟩ := h
  obtain ⟨o', h3, h4⟩ := hl
  exact ⟨v, h1, h2.put h3 h4⟩
theorem recE_put {xs : List UInt8} (k : Nat) (args : Array Value) (A : World) (l : Nat) (o : Obj) (h : RecE xs k args A) (hl : ∃ o', A.heap[l]? = some o' ∧ o'.isCells = false) : RecE xs k args (A.putObj l o) := by
  obtain ⟨v, r, h1, h1', h2⟩ := h
  obtain ⟨o', h3, h4⟩ := hl
  exact ⟨v, r, h1, h1', h2.put h3 h4⟩

/-- What a round has left, by what yield answered. -/
def Left (good bad : World → Prop) : Bool → World → Prop
  | true, W => good W
  | false, W => bad W

/-- The conditions. -/
def condB (y : List UInt8) : Nat → Bool
  | 0 => decide (8 ≤ y.length)
  | 1 => decide (1 ≤ num4 y ∧ num4 y ≤ 32769)
  | 2 => decide (num4 (y.drop 4) = 4294967295 - num4 y)
  | 3 => decide (num4 y + 11 ≤ y.length)
  | _ => decide (num4 (y.drop (7 + num4 y)) = crcSum (recOf y))
/-- The first j conditions hold. -/
def okTo (y : List UInt8) (j : Nat) : Prop := ∀ i, i < j → condB y i = true
theorem okTo_next {y : List UInt8} {j : Nat} (h : okTo y j) (hj : condB y j = true) : okTo y (j + 1) := fun i hi => by
  rcases Nat.lt_or_ge i j with h1 | h1
  · exact h i h1
  · rwa [show i = j by omega]
theorem okTo_framed {y : List UInt8} (h : okTo y 5) : framed y = true := by
  have h0 := h 0 (by decide)
  have h1 := h 1 (by decide)
  have h2 := h 2 (by decide)
  have h3 := h 3 (by decide)
  have h4 := h 4 (by decide)
  simp only [condB] at h0 h1 h2 h3 h4
  simp only [framed, h0, h1, h2, h3, h4, Bool.and_self]
theorem not_framed {y : List UInt8} {j : Nat} (hj : j < 5) (h : condB y j = false) : framed y = false := by
  rw [Bool.eq_false_iff]
  intro hf
  obtain ⟨a, b, c, d, e, f⟩ := framed_iff.1 hf
  rcases (show j = 0 ∨ j = 1 ∨ j = 2 ∨ j = 3 ∨ j = 4 by omega) with rfl | rfl | rfl | rfl | rfl <;> simp only [condB, decide_eq_false_iff_not] at h <;> omega

theorem cond0 {w : World} {A : Option Addr} {c : Nat} {y : List UInt8} (hb : BytesAt w (.slice A y.length c) y) : Calls Tryz.prog 107 #[.slice A y.length c] w fun e w' => e = .returned (.bool (condB y 0)) ∧ Keeps [] w w' := by
  have hc := cap_of_bytes hb
  exact (has_head A y.length c w (by omega)).mono fun e w' ⟨h1, h2⟩ => ⟨h1, h2 ▸ Keeps.refl _ _⟩
theorem cond1 {w : World} {A : Option Addr} {c : Nat} {y : List UInt8} (hb : BytesAt w (.slice A y.length c) y) (hk : okTo y 1) : Calls Tryz.prog 108 #[.slice A y.length c] w fun e w' => e = .returned (.bool (condB y 1)) ∧ Keeps [] w w' := by
  have hc := cap_of_bytes hb
  exact (within_ok A y.length c y w rfl hb (of_decide_eq_true (hk 0 (by decide))) (by omega)).mono fun e w' ⟨h1, h2⟩ => ⟨h1, h2 ▸ Keeps.refl _ _⟩
theorem cond2 {w : World} {A : Option Addr} {c : Nat} {y : List UInt8} (hb : BytesAt w (.slice A y.length c) y) (hk : okTo y 2) : Calls Tryz.prog 109 #[.slice A y.length c] w fun e w' => e = .returned (.bool (condB y 2)) ∧ Keeps [] w w' := by
  have hc := cap_of_bytes hb
  exact (turned_ok A y.length c y w rfl hb (of_decide_eq_true (hk 0 (by decide))) (by omega) (by omega)).mono fun e w' ⟨h1, h2⟩ => ⟨h1, h2 ▸ Keeps.refl _ _⟩
theorem cond3 {w : World} {A : Option Addr} {c : Nat} {y : List UInt8} (hb : BytesAt w (.slice A y.length c) y) (hk : okTo y 3) : Calls Tryz.prog 110 #[.slice A y.length c] w fun e w' => e = .returned (.bool (condB y 3)) ∧ Keeps [] w w' := by
  have hc := cap_of_bytes hb
  exact (has_all A y.length c y w rfl hb (of_decide_eq_true (hk 0 (by decide))) (of_decide_eq_true (hk 1 (by decide))).1 (by omega)).mono fun e w' ⟨h1, h2⟩ => ⟨h1, h2 ▸ Keeps.refl _ _⟩
theorem cond4 {w : World} {A : Option Addr} {c : Nat} {y : List UInt8} (hb : BytesAt w (.slice A y.length c) y) (hk : okTo y 4) : Calls Tryz.prog 111 #[.slice A y.length c] w fun e w' => e = .returned (.bool (condB y 4)) ∧ Keeps [] w w' := by
  have h8 : 8 ≤ y.length := of_decide_eq_true (hk 0 (by decide))
  obtain ⟨b, o, rfl, _⟩ := bytes_addr hb (by omega)
  exact sum_right b o y.length c y w rfl hb h8 (of_decide_eq_true (hk 1 (by decide))).1 (of_decide_eq_true (hk 3 (by decide)))

set_option maxRecDepth 100000 in
set_option maxHeartbeats 2000000 in
theorem records_seq (R n c : Nat) (A : Option Addr) (xs : List UInt8) (hn : xs.length = n) : Seqs Tryz.prog 85 #[.pointer (some ⟨R, 0, none⟩)] (RecE xs) (recs xs).length (recs xs).length (RestD R A n c xs) := by
  intro l J Jx W hD hJ hJx hY h0
  refine (callsIn_wide (n := 3)).1 ?_
  refine callsIn_of_wp_marks Tryz.func85 rfl trivial ?_ rfl
  simp only [Tryz.ntmps85, List.size_toArray, List.length_cons, List.length_nil, Nat.reduceAdd, Nat.reduceSub, Array.replicate_succ, Array.replicate_zero, List.push_toArray, List.append_toArray, List.nil_append, List.cons_append]
  have HD := Lib.hid hD
  have HN := Lib.hid hn
  have c0 : (W.alloc (.cells #[.func (.yield l) #[] #[]] 141)).cell? ⟨R, 0, none⟩ = some (.slice A n c) := (World.cell?_alloc_lt _ _ _ (lt_of_cell hD.1)).trans hD.1
  clear hD hn
  gi_wp2
  refine wpIn_wide.2 (wp_scope_straight ((wpIn_wide (n := 3)).1 ?_))
  refine wpIn_seq (wpIn_label ?_)
  gi_wp2_with (refine ⟨trivial, ?_⟩; gi_at_call 86; refine (callsIn_wide.2 (rests_is _ _ _ _)).mono ?_; rintro e w2 ⟨rfl, rfl⟩)
  obtain ⟨W0, hW0⟩ : ∃ W0, (W.alloc (.cells #[.func (.yield l) #[] #[]] 141)).alloc (.cells #[.slice A n c] 55) = W0 := ⟨_, rfl⟩
  have hz : W0.heap.size = W.heap.size + 2 := by rw [← hW0]; simp
  have hk0 : Keeps [] W W0 := by rw [← hW0]; exact ((Keeps.refl [] W).alloc _).alloc _
  have cY : W0.cell? ⟨W.heap.size, 0, none⟩ = some (.func (.yield l) #[] #[]) := by
    rw [← hW0, World.cell?_alloc_lt _ _ _ (by simp), World.cell?_alloc_new]
    rfl
  have cB : W0.cell? ⟨W.heap.size + 1, 0, none⟩ = some (.slice A n c) := by
    have := World.cell?_alloc_new (W.alloc (.cells #[.func (.yield l) #[] #[]] 141)) #[.slice A n c] 55 0
    rw [World.size_alloc] at this
    rw [← hW0, this]
    rfl
  rw [hW0]
  have D0 : RestD (W.heap.size + 1) A n c xs W0 := ⟨cB, HD.out.2.grow hk0⟩
  have DR0 : RestD R A n c xs W0 := (RestD.under 0).keeps HD.out hk0
  have J0 : J 0 W0 := (hJ 0).keeps h0 hk0
  have uY : Under W0.heap.size (fun X => X.cell? ⟨W.heap.size, 0, none⟩ = some (.func (.yield l) #[] #[])) := fun X Y h hb => hb.cell h
  clear c0 hW0
  refine range_seqs (n := 3) (gf := 105) (lb := #[.pointer (some ⟨W.heap.size + 1, 0, none⟩)]) rfl (enters_of Tryz.func105 (by kernel_rfl) rfl) (rests_seq (W.heap.size + 1) n c A xs HN.out) (fun k args X h => by obtain ⟨v, rfl, _⟩ := h; rfl) (RestD.under _) D0
    (fun k X => J k X ∧ RestD R A n c xs X ∧ X.cell? ⟨W.heap.size, 0, none⟩ = some (.func (.yield l) #[] #[]))
    (fun cd k X => cd = .exit 0 ∧ ((k = (recs xs).length ∧ J k X) ∨ (k < (recs xs).length ∧ Jx k X)))
    (fun k X Y h hb => ⟨(hJ k).mono (by omega) X Y h.1 hb, RestD.under _ X Y h.2.1 hb, uY X Y h.2.2 hb⟩)
    (fun cd k X Y h hb => ⟨h.1, h.2.imp (fun g => ⟨g.1, (hJ k).mono (by omega) X Y g.2 hb⟩) (fun g => ⟨g.1, (hJx k).mono (by omega) X Y g.2 hb⟩)⟩)
    ⟨J0, DR0, cY⟩
    (fun args => { tmps := #[.func (.yield l) #[] #[], .pointer (some ⟨R, 0, none⟩), .pointer (some ⟨W.heap.size, 0, none⟩), args.getD 0 undef, args.getD 1 undef, undef, undef, .slice A n c, .func (.func 105) #[] #[.pointer (some ⟨W.heap.size + 1, 0, none⟩)], args.getD 0 undef, args.getD 1 undef, undef, undef, undef, undef, undef, undef, undef, undef, undef, undef, undef, undef, undef, undef, undef], defers := [] })
    (fun k args A l o h _ hl => restE_put k args A l o h hl) ?assign ?body ?done ?stop
  case assign =>
    rintro l k args W K ⟨v, rfl, hv⟩ hK
    gi_wp2
    exact hK
  case body =>
    rintro lp k args X hk ⟨hJk, hDk, hYk⟩ hD2 hzX ⟨v, rfl, hv⟩
    obtain ⟨y, hyd⟩ : ∃ y, xs.drop (plc xs k) = y := ⟨_, rfl⟩
    rw [hyd] at hv
    have hv' := hv
    obtain ⟨A', c', rfl, hyc, hcm', _⟩ := hv'
    have hym : y.length ≤ 9223372036854775807 := by unfold maxLen at hcm'; omega
    have HV := Lib.hid hv
    have HYD := Lib.hid hyd
    clear hv hcm' hyc hyd
    gi_wp2_with (refine ⟨trivial, ?_⟩; gi_at_call 87; refine (CallsIn.inRound lp (callsIn_wide.2 (conds_is _))).mono ?_; rintro e X1 ⟨rfl, hk1⟩)
    have HK1 := Lib.hid hk1
    clear hk1
    gi_loopw [6, 12] (fun hv i wr => ∃ j : Nat, j ≤ 5 ∧ i = .int .i64 (j : Int) ∧ Hid (okTo y j) ∧ Hid (Keeps [] X wr)) (fun _ i _ => 5 - (intOf i).toNat)
    case atStart => exact ⟨0, by omega, rfl, fun i hi => by omega, HK1⟩
    case round =>
      obtain ⟨j, hj, rfl, HO, HK⟩ := hrel
      have hbw := HV.out.grow HK.out
      have hexit : condB y j = false → j < 5 → ∀ wr' : World, Keeps [] wr wr' → (k = (recs xs).length ∧ J k wr') ∧ Over W0.heap.size X wr' := fun hc hj5 wr' hk' => by
        have hnf := not_framed hj5 hc
        have hkK : k = (recs xs).length := by
          rcases Nat.lt_or_ge k (recs xs).length with h1 | h1
          · have := (plc_next h1).1
            rw [HYD.out, hnf] at this
            cases this
          · omega
        exact ⟨⟨hkK, (hJ k).keeps hJk (HK.out.trans' hk')⟩, Over.of_keeps (HK.out.trans' hk')⟩
      have HX := Lib.hid hexit
      clear hexit
      by_cases hlt : j < 5
      · rcases (show j = 0 ∨ j = 1 ∨ j = 2 ∨ j = 3 ∨ j = 4 by omega) with rfl | rfl | rfl | rfl | rfl
        · have HC := Lib.hid (cond0 hbw)
          clear hbw
          have HN1 := Lib.hid (fun h => okTo_next HO.out (j := 0) h)
          have HXJ := Lib.hid (fun h => HX.out h (by decide : 0 < 5))
          have hix : ∀ w, (Instr.index 143 (.agg #[.func (.func 107) #[] #[], .func (.func 108) #[] #[], .func (.func 109) #[] #[], .func (.func 110) #[] #[], .func (.func 111) #[] #[]]) (.int .i64 0)).run Tryz.prog w = .ok (.func (.func 107) #[] #[]) w := fun _ => by kernel_rfl
          generalize condB y 0 = bb at *
          cases bb
          · gi_wp2_with (refine ⟨trivial, ?_⟩; gi_at_call 107; refine (CallsIn.inRound lp (callsIn_wide.2 HC.out)).mono ?_; rintro e w3 ⟨rfl, hk3⟩)
            exact ⟨⟨rfl, .inl (HXJ.out (by trivial) _ hk3).1⟩, (HXJ.out (by trivial) _ hk3).2⟩
          · gi_wp2_with (refine ⟨trivial, ?_⟩; gi_at_call 107; refine (CallsIn.inRound lp (callsIn_wide.2 HC.out)).mono ?_; rintro e w3 ⟨rfl, hk3⟩)
            have HK3 := Lib.hid (HK.out.trans' hk3)
            go_roundw
            case rel => exact ⟨1, by omega, rfl, HN1.out (by trivial), HK3⟩
            case measure => simp [intOf]
        · have HC := Lib.hid (cond1 hbw HO.out)
          clear hbw
          have HN1 := Lib.hid (fun h => okTo_next HO.out (j := 1) h)
          have HXJ := Lib.hid (fun h => HX.out h (by decide : 1 < 5))
          have hix : ∀ w, (Instr.index 143 (.agg #[.func (.func 107) #[] #[], .func (.func 108) #[] #[], .func (.func 109) #[] #[], .func (.func 110) #[] #[], .func (.func 111) #[] #[]]) (.int .i64 1)).run Tryz.prog w = .ok (.func (.func 108) #[] #[]) w := fun _ => by kernel_rfl
          generalize condB y 1 = bb at *
          cases bb
          · gi_wp2_with (refine ⟨trivial, ?_⟩; gi_at_call 108; refine (CallsIn.inRound lp (callsIn_wide.2 HC.out)).mono ?_; rintro e w3 ⟨rfl, hk3⟩)
            exact ⟨⟨rfl, .inl (HXJ.out (by trivial) _ hk3).1⟩, (HXJ.out (by trivial) _ hk3).2⟩
          · gi_wp2_with (refine ⟨trivial, ?_⟩; gi_at_call 108; refine (CallsIn.inRound lp (callsIn_wide.2 HC.out)).mono ?_; rintro e w3 ⟨rfl, hk3⟩)
            have HK3 := Lib.hid (HK.out.trans' hk3)
            go_roundw
            case rel => exact ⟨2, by omega, rfl, HN1.out (by trivial), HK3⟩
            case measure => simp [intOf]
        · have HC := Lib.hid (cond2 hbw HO.out)
          clear hbw
          have HN1 := Lib.hid (fun h => okTo_next HO.out (j := 2) h)
          have HXJ := Lib.hid (fun h => HX.out h (by decide : 2 < 5))
          have hix : ∀ w, (Instr.index 143 (.agg #[.func (.func 107) #[] #[], .func (.func 108) #[] #[], .func (.func 109) #[] #[], .func (.func 110) #[] #[], .func (.func 111) #[] #[]]) (.int .i64 2)).run Tryz.prog w = .ok (.func (.func 109) #[] #[]) w := fun _ => by kernel_rfl
          generalize condB y 2 = bb at *
          cases bb
          · gi_wp2_with (refine ⟨trivial, ?_⟩; gi_at_call 109; refine (CallsIn.inRound lp (callsIn_wide.2 HC.out)).mono ?_; rintro e w3 ⟨rfl, hk3⟩)
            exact ⟨⟨rfl, .inl (HXJ.out (by trivial) _ hk3).1⟩, (HXJ.out (by trivial) _ hk3).2⟩
          · gi_wp2_with (refine ⟨trivial, ?_⟩; gi_at_call 109; refine (CallsIn.inRound lp (callsIn_wide.2 HC.out)).mono ?_; rintro e w3 ⟨rfl, hk3⟩)
            have HK3 := Lib.hid (HK.out.trans' hk3)
            go_roundw
            case rel => exact ⟨3, by omega, rfl, HN1.out (by trivial), HK3⟩
            case measure => simp [intOf]
        · have HC := Lib.hid (cond3 hbw HO.out)
          clear hbw
          have HN1 := Lib.hid (fun h => okTo_next HO.out (j := 3) h)
          have HXJ := Lib.hid (fun h => HX.out h (by decide : 3 < 5))
          have hix : ∀ w, (Instr.index 143 (.agg #[.func (.func 107) #[] #[], .func (.func 108) #[] #[], .func (.func 109) #[] #[], .func (.func 110) #[] #[], .func (.func 111) #[] #[]]) (.int .i64 3)).run Tryz.prog w = .ok (.func (.func 110) #[] #[]) w := fun _ => by kernel_rfl
          generalize condB y 3 = bb at *
          cases bb
          · gi_wp2_with (refine ⟨trivial, ?_⟩; gi_at_call 110; refine (CallsIn.inRound lp (callsIn_wide.2 HC.out)).mono ?_; rintro e w3 ⟨rfl, hk3⟩)
            exact ⟨⟨rfl, .inl (HXJ.out (by trivial) _ hk3).1⟩, (HXJ.out (by trivial) _ hk3).2⟩
          · gi_wp2_with (refine ⟨trivial, ?_⟩; gi_at_call 110; refine (CallsIn.inRound lp (callsIn_wide.2 HC.out)).mono ?_; rintro e w3 ⟨rfl, hk3⟩)
            have HK3 := Lib.hid (HK.out.trans' hk3)
            go_roundw
            case rel => exact ⟨4, by omega, rfl, HN1.out (by trivial), HK3⟩
            case measure => simp [intOf]
        · have HC := Lib.hid (cond4 hbw HO.out)
          clear hbw
          have HN1 := Lib.hid (fun h => okTo_next HO.out (j := 4) h)
          have HXJ := Lib.hid (fun h => HX.out h (by decide : 4 < 5))
          have hix : ∀ w, (Instr.index 143 (.agg #[.func (.func 107) #[] #[], .func (.func 108) #[] #[], .func (.func 109) #[] #[], .func (.func 110) #[] #[], .func (.func 111) #[] #[]]) (.int .i64 4)).run Tryz.prog w = .ok (.func (.func 111) #[] #[]) w := fun _ => by kernel_rfl
          generalize condB y 4 = bb at *
          cases bb
          · gi_wp2_with (refine ⟨trivial, ?_⟩; gi_at_call 111; refine (CallsIn.inRound lp (callsIn_wide.2 HC.out)).mono ?_; rintro e w3 ⟨rfl, hk3⟩)
            exact ⟨⟨rfl, .inl (HXJ.out (by trivial) _ hk3).1⟩, (HXJ.out (by trivial) _ hk3).2⟩
          · gi_wp2_with (refine ⟨trivial, ?_⟩; gi_at_call 111; refine (CallsIn.inRound lp (callsIn_wide.2 HC.out)).mono ?_; rintro e w3 ⟨rfl, hk3⟩)
            have HK3 := Lib.hid (HK.out.trans' hk3)
            go_roundw
            case rel => exact ⟨5, by omega, rfl, HN1.out (by trivial), HK3⟩
            case measure => simp [intOf]
      · obtain rfl : j = 5 := by omega
        have hf := okTo_framed HO.out
        have hkK : k < (recs xs).length := by
          rcases Nat.lt_or_ge k (recs xs).length with h1 | h1
          · exact h1
          · have hke : k = (recs xs).length := by omega
            have := recs_none xs
            rw [show offs (recs xs) = plc xs k by rw [hke]; unfold plc; rw [List.take_length], HYD.out, hf] at this
            cases this
        have hfi := framed_iff.1 hf
        have hrl := recOf_len hf
        obtain ⟨b, o, rfl, _⟩ := bytes_addr hbw (by omega)
        have hcb := cap_of_bytes hbw
        have kd : Keeps [] X wr.drew := HK.out.drew
        have hbd : BytesAt wr.drew (.slice (some ⟨b, o, none⟩) y.length c') y := HV.out.grow kd
        have RI := record_in b o y.length c' y wr.drew rfl hbd hfi.1 hfi.2.1 hfi.2.2.2.2.1 hcb.1 hcb.2.1
        have hrb : BytesAt wr.drew (.slice (some ⟨b, o + 8, none⟩) (num4 y - 1) (c' - 8)) (recOf y) := hbd.part (by omega) rfl
        have hre : (recs xs)[k]? = some (recOf y) := by
          rw [List.getElem?_eq_getElem hkK, ← (recs_some hkK).2.1]
          exact congrArg some (congrArg recOf HYD.out)
        have hzw := HK.out.size
        have HYk := hY k wr.drew #[.int .i64 (plc xs k : Nat), .slice (some ⟨b, o + 8, none⟩) (num4 y - 1) (c' - 8)] hkK ((hJ k).keeps hJk kd) ((RestD.under 0).keeps hDk kd) (by show W.heap.size ≤ wr.heap.size; omega) ⟨_, _, rfl, hre, hrb⟩
        obtain ⟨fn, tmps, assign, body, hyr, hR0⟩ := HYk (3 - 1)
        have hR := hR0.mono (R' := fun e B => ∃ tt : Bool, e = .returned (.bool tt) ∧ Hid (Left (fun B => k < (recs xs).length ∧ J (k + 1) B ∧ RestD R A n c xs B) (fun B => Jx k B) tt B ∧ Over W.heap.size wr.drew B)) (fun e B h => by
          rcases h with ⟨rfl, h1, h2, h3, h4⟩ | ⟨rfl, h1, h4⟩
          · exact ⟨true, rfl, ⟨h1, h2, h3⟩, h4⟩
          · exact ⟨false, rfl, h1, h4⟩)
        clear hR0
        have cYd : wr.drew.cell? ⟨W.heap.size, 0, none⟩ = some (.func (.yield l) #[] #[]) := uY.keeps hYk kd
        have c2 : wr.drew.cell? ⟨W.heap.size + 1, 0, none⟩ = some (.slice A n c) := (kd.cell (p := ⟨W.heap.size + 1, 0, none⟩) (lt_of_cell hD2.1) (by simp)).trans hD2.1
        have hX1 : W.heap.size + 1 < wr.heap.size := lt_of_cell c2
        have FT := Lib.hid (show ∀ w3, Left (fun B => k < (recs xs).length ∧ J (k + 1) B ∧ RestD R A n c xs B) (fun B => Jx k B) true w3 ∧ Over W.heap.size wr.drew w3 → k < (recs xs).length ∧ (J (k + 1) w3 ∧ RestD R A n c xs w3 ∧ w3.cell? ⟨W.heap.size, 0, none⟩ = some (.func (.yield l) #[] #[])) ∧ RestD (W.heap.size + 1) A n c xs w3 ∧ Over W0.heap.size X w3 from fun w3 ⟨h, ho⟩ => by
          obtain ⟨h1, h2, h3⟩ := h
          exact ⟨h1, ⟨h2, h3, (ho.cell (p := ⟨W.heap.size, 0, none⟩) (Nat.le_refl _) (by show W.heap.size < wr.heap.size; omega)).trans cYd⟩, ⟨(ho.cell (p := ⟨W.heap.size + 1, 0, none⟩) (by show W.heap.size ≤ W.heap.size + 1; omega) (by show W.heap.size + 1 < wr.heap.size; omega)).trans c2, h3.2⟩, (Over.of_keeps kd).trans (ho.mono (by omega))⟩)
        have FF := Lib.hid (show ∀ w3, Left (fun B => k < (recs xs).length ∧ J (k + 1) B ∧ RestD R A n c xs B) (fun B => Jx k B) false w3 ∧ Over W.heap.size wr.drew w3 → ((Code.exit 0) = .exit 0 ∧ ((k = (recs xs).length ∧ J k w3) ∨ (k < (recs xs).length ∧ Jx k w3))) ∧ Over W0.heap.size X w3 from fun w3 ⟨h, ho⟩ => by
          exact ⟨⟨rfl, .inr ⟨hkK, h⟩⟩, (Over.of_keeps kd).trans (ho.mono (by omega))⟩)
        have HRI := Lib.hid RI
        have HKD := Lib.hid kd
        have hmx : Tryz.prog.follows .mixedOrders = true := by kernel_rfl
        clear RI kd c2 hX1 hbd hrb hre HYk hfi hrl hcb HO hf hbw HX
        generalize num4 y = h at *
        gi_wp2
        gi_region_with_o (first | (refine ⟨trivial, ?_⟩; gi_at_call 88; refine (CallsIn.inRound lp (callsIn_wide.2 HRI.out)).mono ?_; rintro e w3 ⟨rfl, rfl⟩) | (refine hR.mono ?_; rintro e w3 ⟨tt, rfl, HG⟩))
        all_goals cases tt
        all_goals gi_wp2
        all_goals first | exact FT.out _ HG.out | exact ⟨⟨rfl, (FF.out _ HG.out).1.2⟩, (FF.out _ HG.out).2⟩
  case done =>
    rintro X hNM
    omega
  case stop =>
    rintro cd k X hk ⟨rfl, hx⟩ hK
    gi_wp2
    simp only [Exit.noGoto_normal]
    refine ⟨by simp, .inl ⟨_, _, rfl, run_takeDeferred hK, ?_⟩⟩
    have hb : Kept W.heap.size X (X.putObj W0.heap.size (.deferred none)) := Kept.put (by omega) hK rfl
    refine ⟨_, results_none rfl _ _ _, ⟨_, rfl⟩, ?_⟩
    rcases hx with ⟨rfl, h1⟩ | ⟨h1, h2⟩
    · exact .inl ⟨Nat.le_refl _, hJ _ _ _ h1 hb⟩
    · exact .inr ⟨k, h1, hJx _ _ _ h2 hb⟩

end Go.Proofs.YthgpjlmdllihmaaGreat
