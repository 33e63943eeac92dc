/- Texts of one proof, laid together: B1 F9 F11 F12 F13. -/
import Derived.Test.YthgpjlmdllihmaaGreatM09
import Derived.Lib.SlBytesRow
import Derived.Test.YthgpjlmdllihmaaGreatM06
/- bytes.Clone: the disk's D2 has it. -/
/- frames: End, First, All. -/
namespace Go.Proofs.YthgpjlmdllihmaaGreat
open Go.RowKit Go.Shelf
set_option linter.unusedVariables false
attribute [local go_sem] Oper.semAt_some

theorem plc_succ {xs : List UInt8} {k : Nat} {r : List UInt8} (h : (recs xs)[k]? = some r) : plc xs (k + 1) = plc xs k + (r.length + 12) ∧ r.length ≤ 32768 := by
  obtain ⟨hk, rfl⟩ := List.getElem?_eq_some_iff.1 h
  exact ⟨(recs_some hk).2.2, recs_short (List.getElem_mem hk)⟩
theorem plc_end (xs : List UInt8) : plc xs (recs xs).length = offs (recs xs) := by unfold plc; rw [List.take_length]

theorem boxed_under {B n : Nat} {t : TypeId} {v : Value} : Under n (fun X => Boxed X B t v) := fun X Y h hb => hb.block B _ h (.inr rfl)

theorem over_set {n b : Nat} (X : World) (v : Value) (h : b < n) : Over n X (X.setCell ⟨b, 0, none⟩ v) :=
  ⟨rfl, rfl, rfl, by show X.heap.size ≤ (X.heap.modify _ _).size; rw [Array.size_modify]; exact Nat.le_refl _, fun k hk _ => Below.heap_setCell X ⟨b, 0, none⟩ v k (by show k ≠ b; omega)⟩
theorem below_set {n b : Nat} (X : World) (v : Value) (h : n ≤ b) : Below n X (X.setCell ⟨b, 0, none⟩ v) := (Below.refl n X).setCell (p := ⟨b, 0, none⟩) h v

/-- A result of three cells. -/
theorem results_cell3 {P : Program} {fn : Func} {p q r : Tmp} {t1 t2 t3 : TypeId} (h : fn.results = #[.cell p t1, .cell q t2, .cell r t3]) (tmps : Array Value) (w : World) {a b c : Nat} {u v x : Value}
    (ha : tmps.getD p undef = .pointer (some ⟨a, 0, none⟩)) (hb : tmps.getD q undef = .pointer (some ⟨b, 0, none⟩)) (hc : tmps.getD r undef = .pointer (some ⟨c, 0, none⟩))
    (h1 : ∀ w, w.cell? ⟨a, 0, none⟩ = some u → (loadVar t1 ⟨a, 0, none⟩).run P w = .ok u w) (h2 : ∀ w, w.cell? ⟨b, 0, none⟩ = some v → (loadVar t2 ⟨b, 0, none⟩).run P w = .ok v w) (h3 : ∀ w, w.cell? ⟨c, 0, none⟩ = some x → (loadVar t3 ⟨c, 0, none⟩).run P w = .ok x w)
    (ca : w.cell? ⟨a, 0, none⟩ = some u) (cb : w.cell? ⟨b, 0, none⟩ = some v) (cc : w.cell? ⟨c, 0, none⟩ = some x) : (results fn tmps).run P w = .ok (.tuple #[u, v, x]) w := by
  have ha' : tmps[p]?.getD undef = .pointer (some ⟨a, 0, none⟩) := by simpa using ha
  have hb' : tmps[q]?.getD undef = .pointer (some ⟨b, 0, none⟩) := by simpa using hb
  have hc' : tmps[r]?.getD undef = .pointer (some ⟨c, 0, none⟩) := by simpa using hc
  simp [results, h, ha', hb', hc', asAddr, Sem.run_bind, h1 w ca, h2 w cb, h3 w cc, Result.andThen]

theorem load_var {t : TypeId} {g : Nat} {v : Value} (hagg : ∀ w, (isAgg t).run Tryz.prog w = .ok false w) (w : World) (hc : w.cell? ⟨g, 0, none⟩ = some v) : (loadVar t ⟨g, 0, none⟩).run Tryz.prog w = .ok v w := by
  simp [loadVar, Sem.run_bind, hagg, hc, go_sem]

end Go.Proofs.YthgpjlmdllihmaaGreat
/- frames: First. -/
namespace Go.Proofs.YthgpjlmdllihmaaGreat
open Go.RowKit Go.Shelf
set_option linter.unusedVariables false
attribute [local go_sem] Oper.semAt_some

/-- The first record, or none. -/
def fstR (xs : List UInt8) : List UInt8 := if framed xs then recOf xs else []
def fstN (xs : List UInt8) : Nat := if framed xs then (recOf xs).length + 12 else 0
theorem fst_some {xs r : List UInt8} (h : (recs xs)[0]? = some r) : framed xs = true ∧ fstR xs = r ∧ fstN xs = r.length + 12 := by
  cases hf : framed xs
  · rw [recs_nil hf] at h
    cases h
  · rw [recs_cons hf] at h
    simp only [List.getElem?_cons_zero, Option.some.injEq] at h
    subst h
    simp [fstR, fstN, hf]
theorem fst_none {xs : List UInt8} (h : 0 = (recs xs).length) : framed xs = false ∧ fstR xs = [] ∧ fstN xs = 0 := by
  cases hf : framed xs
  · simp [fstR, fstN, hf]
  · rw [recs_cons hf] at h
    simp at h

theorem own_bytes {w : World} {base n c : Nat} {A : Option Addr} {xs : List UInt8} (h : w.ownsRow base 5 1 (.slice A n c) n (xs.map bv)) (hn : xs.length = n) : BytesAt w (.slice A n c) xs ∧ ∀ b, (Value.slice A n c).ownBlock = some b → base ≤ b := by
  subst hn
  refine ⟨BytesAt.of_own h, fun b hb => ?_⟩
  rcases h.2 with ⟨h1, _⟩ | ⟨g, cap, cur, h1, h2, _⟩
  · rw [h1] at hb; cases hb
  · rw [h1] at hb
    simp only [Value.ownBlock, Option.some.injEq] at hb
    omega

theorem boxed_keeps {X Y : World} {B : Nat} {t : TypeId} {v : Value} (h : Boxed X B t v) (hk : Keeps [] X Y) : Boxed Y B t v := (hk.block B h.lt (by simp)).trans h

/-- Three boxes side by side, written. -/
theorem set_three {X : World} {s : Nat} {t1 t2 t3 : TypeId} {a b c : Value} (u v x : Value) (h1 : Boxed X s t1 a) (h2 : Boxed X (s + 1) t2 b) (h3 : Boxed X (s + 1 + 1) t3 c) :
    Boxed (((X.setCell ⟨s, 0, none⟩ u).setCell ⟨s + 1, 0, none⟩ v).setCell ⟨s + 1 + 1, 0, none⟩ x) s t1 u ∧ Boxed (((X.setCell ⟨s, 0, none⟩ u).setCell ⟨s + 1, 0, none⟩ v).setCell ⟨s + 1 + 1, 0, none⟩ x) (s + 1) t2 v ∧ Boxed (((X.setCell ⟨s, 0, none⟩ u).setCell ⟨s + 1, 0, none⟩ v).setCell ⟨s + 1 + 1, 0, none⟩ x) (s + 1 + 1) t3 x ∧
    Keeps [s, s + 1, s + 1 + 1] X (((X.setCell ⟨s, 0, none⟩ u).setCell ⟨s + 1, 0, none⟩ v).setCell ⟨s + 1 + 1, 0, none⟩ x) :=
  ⟨((h1.set u).other (by omega) v).other (by omega) x, ((h2.other (by omega) u).set v).other (by omega) x, ((h3.other (by omega) u).other (by omega) v).set x,
    (((Keeps.refl _ X).setCell (.inl (by simp)) u).setCell (.inl (by simp)) v).setCell (.inl (by simp)) x⟩
theorem Over.of_some {n : Nat} {bs : List Nat} {w w' : World} (h : Keeps bs w w') (hb : ∀ b ∈ bs, b < n) : Over n w w' := ⟨h.os, h.tape, h.output, h.size, fun k hk hl => h.block k hl (fun hm => by have := hb k hm; omega)⟩

/-- What First has laid into its results. -/
structure FstX (w : World) (xs : List UInt8) (X : World) : Prop where
  ex : ∃ r B d, (recs xs)[0]? = some r ∧ BytesAt X (.slice B r.length d) r ∧ (∀ b, (Value.slice B r.length d).ownBlock = some b → w.heap.size ≤ b) ∧ Boxed X w.heap.size 55 (.slice B r.length d) ∧ Boxed X (w.heap.size + 1) 3 (.int .i64 ((r.length + 12 : Nat) : Int)) ∧ Boxed X (w.heap.size + 1 + 1) 4 (.bool true)
  below : Below w.heap.size w X

set_option maxRecDepth 100000 in
set_option maxHeartbeats 1000000 in
theorem first_is (A : Option Addr) (n c : Nat) (xs : List UInt8) (w : World) (hn : xs.length = n) (hb : BytesAt w (.slice A n c) xs) : Calls Tryz.prog 55 #[.slice A n c] w fun e w' =>
    ∃ B d, e = .returned (.tuple #[.slice B (fstR xs).length d, .int .i64 (fstN xs : Nat), .bool (framed xs)]) ∧ BytesAt w' (.slice B (fstR xs).length d) (fstR xs) ∧ (∀ b, (Value.slice B (fstR xs).length d).ownBlock = some b → w.heap.size ≤ b) ∧ Keeps [] w w' := by
  obtain ⟨hnc, hcm, hxx⟩ := cap_of_bytes hb
  clear hxx
  refine (callsIn_wide (n := 3)).1 ?_
  refine callsIn_of_wp_marks Tryz.func55 rfl trivial ?_ rfl
  simp only [Tryz.ntmps55, List.size_toArray, List.length_cons, List.length_nil, Nat.reduceAdd, Nat.reduceSub, Array.replicate_succ, Array.replicate_zero, List.push_toArray, List.append_toArray, List.nil_append, List.cons_append]
  have HB := Lib.hid hb
  have HN := Lib.hid hn
  clear hb hn
  gi_wp2_with (refine ⟨trivial, ?_⟩; gi_at_call 71; refine (callsIn_wide.2 (records_is _ _ _ _)).mono ?_; rintro e w2 ⟨rfl, rfl⟩)
  obtain ⟨W0, hW0⟩ : ∃ W0, (((w.alloc (.cells #[.slice none 0 0] 55)).alloc (.cells #[.int .i64 0] 3)).alloc (.cells #[.bool false] 4)).alloc (.cells #[.slice A n c] 55) = W0 := ⟨_, rfl⟩
  have hz : W0.heap.size = w.heap.size + 4 := by rw [← hW0]; simp
  have hk0 : Keeps [] w W0 := by rw [← hW0]; exact ((((Keeps.refl [] w).alloc _).alloc _).alloc _).alloc _
  have b1 : Boxed W0 w.heap.size 55 (.slice none 0 0) := by rw [← hW0]; exact (((Boxed.new w 55 _).alloc _).alloc _).alloc _
  have b2 : Boxed W0 (w.heap.size + 1) 3 (.int .i64 0) := by
    have := Boxed.new (w.alloc (.cells #[.slice none 0 0] 55)) 3 (.int .i64 0)
    rw [World.size_alloc] at this
    rw [← hW0]
    exact (this.alloc _).alloc _
  have b3 : Boxed W0 (w.heap.size + 1 + 1) 4 (.bool false) := by
    have := Boxed.new ((w.alloc (.cells #[.slice none 0 0] 55)).alloc (.cells #[.int .i64 0] 3)) 4 (.bool false)
    rw [World.size_alloc, World.size_alloc] at this
    rw [← hW0]
    exact this.alloc _
  have b4 : Boxed W0 (w.heap.size + 1 + 1 + 1) 55 (.slice A n c) := by
    have := Boxed.new (((w.alloc (.cells #[.slice none 0 0] 55)).alloc (.cells #[.int .i64 0] 3)).alloc (.cells #[.bool false] 4)) 55 (.slice A n c)
    rw [World.size_alloc, World.size_alloc, World.size_alloc] at this
    rw [← hW0]
    exact this
  rw [hW0]
  have D0 : RestD (w.heap.size + 1 + 1 + 1) A n c xs W0 := ⟨b4.cell, HB.out.grow hk0⟩
  clear hW0
  refine range_seqs (n := 3) (gf := 85) (lb := #[.pointer (some ⟨w.heap.size + 1 + 1 + 1, 0, none⟩)]) rfl (enters_of Tryz.func85 (by kernel_rfl) rfl) (records_seq (w.heap.size + 1 + 1 + 1) n c A xs HN.out) (fun k args X h => by obtain ⟨v, r, rfl, _⟩ := h; rfl) (RestD.under _) D0
    (fun k X => k = 0 ∧ (Boxed X w.heap.size 55 (.slice none 0 0) ∧ Boxed X (w.heap.size + 1) 3 (.int .i64 0) ∧ Boxed X (w.heap.size + 1 + 1) 4 (.bool false)) ∧ Below w.heap.size w X)
    (fun cd k X => cd = .ret ∧ FstX w xs X)
    (fun k X Y h hb => ⟨h.1, ⟨boxed_under X Y h.2.1.1 hb, boxed_under X Y h.2.1.2.1 hb, boxed_under X Y h.2.1.2.2 hb⟩, h.2.2.trans ((hb.mono (by omega)).below h.2.2.size)⟩)
    (fun cd k X Y h hb => ⟨h.1, by
      obtain ⟨⟨r, B, d, h1, h2, h3, h4, h5, h6⟩, h7⟩ := h.2
      exact ⟨⟨r, B, d, h1, BytesAt.under _ X Y h2 hb, h3, boxed_under X Y h4 hb, boxed_under X Y h5 hb, boxed_under X Y h6 hb⟩, h7.trans ((hb.mono (by omega)).below h7.size)⟩⟩)
    ⟨rfl, ⟨b1, b2, b3⟩, hk0.below (Nat.le_refl _) (by simp)⟩
    (fun args => { tmps := #[.slice A n c, undef, .pointer (some ⟨w.heap.size, 0, none⟩), .pointer (some ⟨w.heap.size + 1, 0, none⟩), .pointer (some ⟨w.heap.size + 1 + 1, 0, none⟩), undef, args.getD 1 undef, .slice A n c, .func (.func 85) #[] #[.pointer (some ⟨w.heap.size + 1 + 1 + 1, 0, none⟩)], args.getD 0 undef, args.getD 1 undef, undef, undef, undef, undef], defers := [] })
    (fun k args A l o h _ hl => recE_put k args A l o h hl) ?assign ?body ?done ?stop
  case assign =>
    rintro l k args W K ⟨v, r, rfl, hr, hv⟩ hK
    gi_wp2
    exact hK
  case body =>
    rintro lp k args X hk ⟨rfl, ⟨x1, x2, x3⟩, hbX⟩ hD2 hzX ⟨v, r, rfl, hr, hv⟩
    have hv' := hv
    obtain ⟨A', c', rfl, _, _, _⟩ := hv'
    obtain ⟨hp1, hrl⟩ := plc_succ hr
    have HR := Lib.hid hr
    have HD2 := Lib.hid hD2
    have HBW := Lib.hid hbX
    have HS := Lib.hid (fun w => size_ok A' r.length c' w hrl)
    have HC := Lib.hid (clone_any (.slice A' r.length c') r X (by omega) hv)
    have HX1 := Lib.hid x1
    have HX2 := Lib.hid x2
    have HX3 := Lib.hid x3
    have hsX := hbX.size
    clear hp1 hD2 hbX hr hv x1 x2 x3 b1 b2 b3 b4 D0 hk0
    gi_wp2_with (refine ⟨trivial, ?_⟩; gi_at_call 53; refine (CallsIn.inRound lp (callsIn_wide.2 HC.out)).mono ?_; rintro e X1 ⟨B, d, rfl, ho, hb1⟩)
    obtain ⟨hbb, hown⟩ := own_bytes ho rfl
    have k1 : Keeps [] X X1 := Keeps.of_below hb1
    have x1 := boxed_keeps HX1.out k1
    have x2 := boxed_keeps HX2.out k1
    have x3 := boxed_keeps HX3.out k1
    have c1 := x1.cell
    have c2 := x2.cell
    have c3 := x3.cell
    have f1 := x1.frozen
    have f2 := x2.frozen
    have f3 := x3.frozen
    have HBB := Lib.hid hbb
    have HOW := Lib.hid hown
    have HK1 := Lib.hid k1
    have HY1 := Lib.hid x1
    have HY2 := Lib.hid x2
    have HY3 := Lib.hid x3
    clear x1 x2 x3 hbb hown k1 ho hb1
    gi_wp2_with (refine ⟨trivial, ?_⟩; gi_at_call 72; refine (CallsIn.inRound lp (callsIn_wide.2 (HS.out _))).mono ?_; rintro e w3 ⟨rfl, rfl⟩)
    obtain ⟨y1, y2, y3, hks⟩ := set_three (.slice B r.length d) (.int .i64 ((r.length : Int) + 12)) (.bool true) HY1.out HY2.out HY3.out
    have hbv := HBB.out.keep hks (fun b hb hm => by
      have h1 := HOW.out b hb
      simp only [List.mem_cons, List.mem_nil_iff, or_false] at hm
      omega)
    have hbw : Below w.heap.size X1 _ := hks.below (by have := HK1.out.size; omega) (by simp only [List.mem_cons, List.mem_nil_iff, or_false]; omega)
    exact ⟨⟨rfl, ⟨r, B, d, HR.out, hbv, fun b hb => by have := HOW.out b hb; omega, y1, y2, y3⟩, (HBW.out.trans (HK1.out.below (by omega) (by simp))).trans hbw⟩, (Over.of_keeps HK1.out).trans (Over.of_some hks (by simp only [List.mem_cons, List.mem_nil_iff, or_false]; omega))⟩
  case done =>
    rintro X hNM ⟨hN0, ⟨x1, x2, x3⟩, hbX⟩ hK
    have c1 := x1.cell
    have c2 := x2.cell
    have c3 := x3.cell
    have f1 := x1.frozen
    have f2 := x2.frozen
    have f3 := x3.frozen
    obtain ⟨g1, g2, g3⟩ := fst_none hN0.symm
    have HG1 := Lib.hid g1
    have HG2 := Lib.hid g2
    have HG3 := Lib.hid g3
    clear g1 g2 g3
    gi_wp2
    obtain ⟨y1, y2, y3, hks⟩ := set_three (.slice none 0 0) (.int .i64 0) (.bool false) x1 x2 x3
    generalize ((X.setCell ⟨w.heap.size, 0, none⟩ (.slice none 0 0)).setCell ⟨w.heap.size + 1, 0, none⟩ (.int .i64 0)).setCell ⟨w.heap.size + 1 + 1, 0, none⟩ (.bool false) = X3 at *
    have hK3 : X3.heap[W0.heap.size]? = some (.deferred (some [])) := (hks.block _ (by have := (Array.getElem?_eq_some_iff.1 hK).1; omega) (by simp only [List.mem_cons, List.mem_nil_iff, or_false]; omega)).trans hK
    have hkp : Kept w.heap.size X3 (X3.putObj W0.heap.size (.deferred none)) := Kept.put (by omega) hK3 rfl
    have hsX := hbX.size
    have hs3 := hks.size
    refine ⟨by simp, .inl ⟨_, _, rfl, run_takeDeferred hK3, ?_⟩⟩
    refine ⟨_, results_cell3 rfl _ _ rfl rfl rfl (fun w hc => load_var Tryz.isAgg55 w hc) (fun w hc => load_var Tryz.isAgg3 w hc) (fun w hc => load_var Tryz.isAgg4 w hc) (hkp.cell y1.cell) (hkp.cell y2.cell) (hkp.cell y3.cell), ?_⟩
    rw [HG1.out, HG2.out, HG3.out]
    exact ⟨none, 0, rfl, ⟨none, 0, rfl, Nat.le_refl _, Nat.zero_le _, fun h => absurd h (by simp)⟩, (fun b hb => by cases hb), Keeps.of_below ((hbX.trans (hks.below (by omega) (by simp only [List.mem_cons, List.mem_nil_iff, or_false]; omega))).trans (hkp.below (by omega)))⟩
  case stop =>
    rintro cd k X hk ⟨rfl, ⟨r, B, d, h1, h2, h3, h4, h5, h6⟩, h7⟩ hK
    obtain ⟨g1, g2, g3⟩ := fst_some h1
    have HG1 := Lib.hid g1
    have HG2 := Lib.hid g2
    have HG3 := Lib.hid g3
    clear g1 g2 g3
    have hkp : Kept w.heap.size X (X.putObj W0.heap.size (.deferred none)) := Kept.put (by omega) hK rfl
    gi_wp2
    refine ⟨by simp, .inl ⟨_, _, rfl, run_takeDeferred hK, ?_⟩⟩
    refine ⟨_, results_cell3 rfl _ _ rfl rfl rfl (fun w hc => load_var Tryz.isAgg55 w hc) (fun w hc => load_var Tryz.isAgg3 w hc) (fun w hc => load_var Tryz.isAgg4 w hc) (hkp.cell h4.cell) (hkp.cell h5.cell) (hkp.cell h6.cell), ?_⟩
    rw [HG1.out, HG2.out, HG3.out]
    exact ⟨B, d, rfl, BytesAt.under _ _ _ h2 hkp, h3, Keeps.of_below (h7.trans (hkp.below h7.size))⟩

end Go.Proofs.YthgpjlmdllihmaaGreat
/- frames: All. -/
namespace Go.Proofs.YthgpjlmdllihmaaGreat
open Go.RowKit Go.Shelf
set_option linter.unusedVariables false
attribute [local go_sem] Oper.semAt_some

set_option maxRecDepth 100000 in
set_option maxHeartbeats 2000000 in
theorem all_seq (R n c : Nat) (A : Option Addr) (xs : List UInt8) (hn : xs.length = n) : Seqs Tryz.prog 91 #[.pointer (some ⟨R, 0, none⟩)] (RecE xs) (recs xs).length (recs xs).length (RestD R A n c xs) := by
  intro l J Jx W hD hJ hJx hY h0
  refine (callsIn_wide (n := 3)).1 ?_
  refine callsIn_of_wp_marks Tryz.func91 rfl trivial ?_ rfl
  simp only [Tryz.ntmps91, List.size_toArray, List.length_cons, List.length_nil, Nat.reduceAdd, Nat.reduceSub, Array.replicate_succ, Array.replicate_zero, List.push_toArray, List.append_toArray, List.nil_append, List.cons_append]
  have HD := Lib.hid hD
  have HN := Lib.hid hn
  have c0 : (W.alloc (.cells #[.func (.yield l) #[] #[]] 141)).cell? ⟨R, 0, none⟩ = some (.slice A n c) := (World.cell?_alloc_lt _ _ _ (lt_of_cell hD.1)).trans hD.1
  clear hD hn
  gi_wp2_with (refine ⟨trivial, ?_⟩; gi_at_call 71; refine (callsIn_wide.2 (records_is _ _ _ _)).mono ?_; rintro e w2 ⟨rfl, rfl⟩)
  obtain ⟨W0, hW0⟩ : ∃ W0, (W.alloc (.cells #[.func (.yield l) #[] #[]] 141)).alloc (.cells #[.slice A n c] 55) = W0 := ⟨_, rfl⟩
  have hz : W0.heap.size = W.heap.size + 2 := by rw [← hW0]; simp
  have hk0 : Keeps [] W W0 := by rw [← hW0]; exact ((Keeps.refl [] W).alloc _).alloc _
  have cY : W0.cell? ⟨W.heap.size, 0, none⟩ = some (.func (.yield l) #[] #[]) := by
    rw [← hW0, World.cell?_alloc_lt _ _ _ (by simp), World.cell?_alloc_new]
    rfl
  have cB : W0.cell? ⟨W.heap.size + 1, 0, none⟩ = some (.slice A n c) := by
    have := World.cell?_alloc_new (W.alloc (.cells #[.func (.yield l) #[] #[]] 141)) #[.slice A n c] 55 0
    rw [World.size_alloc] at this
    rw [← hW0, this]
    rfl
  rw [hW0]
  have D0 : RestD (W.heap.size + 1) A n c xs W0 := ⟨cB, HD.out.2.grow hk0⟩
  have DR0 : RestD R A n c xs W0 := (RestD.under 0).keeps HD.out hk0
  have J0 : J 0 W0 := (hJ 0).keeps h0 hk0
  have uY : Under W0.heap.size (fun X => X.cell? ⟨W.heap.size, 0, none⟩ = some (.func (.yield l) #[] #[])) := fun X Y h hb => hb.cell h
  clear c0 hW0
  refine range_seqs (n := 3) (gf := 85) (lb := #[.pointer (some ⟨W.heap.size + 1, 0, none⟩)]) rfl (enters_of Tryz.func85 (by kernel_rfl) rfl) (records_seq (W.heap.size + 1) n c A xs HN.out) (fun k args X h => by obtain ⟨v, r, rfl, _⟩ := h; rfl) (RestD.under _) D0
    (fun k X => J k X ∧ RestD R A n c xs X ∧ X.cell? ⟨W.heap.size, 0, none⟩ = some (.func (.yield l) #[] #[]))
    (fun cd k X => cd = .ret ∧ k < (recs xs).length ∧ Jx k X)
    (fun k X Y h hb => ⟨(hJ k).mono (by omega) X Y h.1 hb, RestD.under _ X Y h.2.1 hb, uY X Y h.2.2 hb⟩)
    (fun cd k X Y h hb => ⟨h.1, h.2.1, (hJx k).mono (by omega) X Y h.2.2 hb⟩)
    ⟨J0, DR0, cY⟩
    (fun args => { tmps := #[.func (.yield l) #[] #[], .pointer (some ⟨R, 0, none⟩), .pointer (some ⟨W.heap.size, 0, none⟩), args.getD 0 undef, args.getD 1 undef, .slice A n c, .func (.func 85) #[] #[.pointer (some ⟨W.heap.size + 1, 0, none⟩)], args.getD 0 undef, args.getD 1 undef, undef, undef, undef, undef, undef, undef], defers := [] })
    (fun k args A l o h _ hl => recE_put k args A l o h hl) ?assign ?body ?done ?stop
  case assign =>
    rintro l k args W K ⟨v, r, rfl, hr, hv⟩ hK
    gi_wp2
    exact hK
  case body =>
    rintro lp k args X hk ⟨hJk, hDk, hYk⟩ hD2 hzX ⟨v, r, rfl, hr, hv⟩
    have hv' := hv
    obtain ⟨A', c', rfl, hyc, hcm', _⟩ := hv'
    obtain ⟨hp1, hrl⟩ := plc_succ hr
    have hvd : BytesAt X.drew (.slice A' r.length c') r := hv.grow (Keeps.refl [] X).drew
    have HC := Lib.hid ((clone_any (.slice A' r.length c') r X.drew (by omega) hvd).mono (R' := fun e X1 => ∃ B d, e = .returned (.slice B r.length d) ∧ X1.cell? ⟨W.heap.size, 0, none⟩ = some (.func (.yield l) #[] #[]) ∧ Hid (Asks Tryz.prog l #[.int .i64 (plc xs k : Nat), .slice B r.length d] X1 fun e w3 => ∃ tt : Bool, e = .returned (.bool tt) ∧ Hid (Left (fun w3 => k < (recs xs).length ∧ (J (k + 1) w3 ∧ RestD R A n c xs w3 ∧ w3.cell? ⟨W.heap.size, 0, none⟩ = some (.func (.yield l) #[] #[])) ∧ RestD (W.heap.size + 1) A n c xs w3 ∧ Over W0.heap.size X w3) (fun w3 => (k < (recs xs).length ∧ Jx k w3) ∧ Over W0.heap.size X w3) tt w3))) (fun e X1 h => by
      obtain ⟨B, d, rfl, ho, hb1⟩ := h
      obtain ⟨hbb, hown⟩ := own_bytes ho rfl
      have kd : Keeps [] X X1 := (Keeps.refl [] X).drew.trans' (Keeps.of_below hb1)
      have hzw := kd.size
      have cYd := uY.keeps hYk kd
      have c2 : X1.cell? ⟨W.heap.size + 1, 0, none⟩ = some (.slice A n c) := (kd.cell (p := ⟨W.heap.size + 1, 0, none⟩) (lt_of_cell hD2.1) (by simp)).trans hD2.1
      have hX1 : W.heap.size + 1 < X1.heap.size := lt_of_cell c2
      refine ⟨B, d, rfl, cYd, fun m => ?_⟩
      refine YieldAt.mono (hY k X1 #[.int .i64 (plc xs k : Nat), .slice B r.length d] hk ((hJ k).keeps hJk kd) ((RestD.under 0).keeps hDk kd) (by omega) ⟨_, _, rfl, hr, hbb⟩ m) (fun e w3 h => ?_)
      rcases h with ⟨rfl, h1, h2, h3, ho⟩ | ⟨rfl, h1, ho⟩
      · refine ⟨true, rfl, h1, ⟨h2, h3, ?_⟩, ⟨?_, h3.2⟩, (Over.of_keeps kd).trans (ho.mono (by omega))⟩
        · exact (ho.cell (p := ⟨W.heap.size, 0, none⟩) (Nat.le_refl _) (by show W.heap.size < X1.heap.size; omega)).trans cYd
        · exact (ho.cell (p := ⟨W.heap.size + 1, 0, none⟩) (by show W.heap.size ≤ W.heap.size + 1; omega) (by show W.heap.size + 1 < X1.heap.size; omega)).trans c2
      · exact ⟨false, rfl, ⟨hk, h1⟩, (Over.of_keeps kd).trans (ho.mono (by omega))⟩))
    have hmx : Tryz.prog.follows .mixedOrders = true := by kernel_rfl
    have cYX : X.drew.cell? ⟨W.heap.size, 0, none⟩ = some (.func (.yield l) #[] #[]) := hYk
    clear hvd hv hcm' hyc hp1
    gi_wp2
    gi_region_with_o (first | (refine ⟨trivial, ?_⟩; gi_at_call 53; refine (CallsIn.inRound lp (callsIn_wide.2 HC.out)).mono ?_; rintro e X1 ⟨B, d, rfl, cY1, HA⟩; obtain ⟨fn, tmps, assign, body, hyr, hR⟩ := HA.out (3 - 1)) | (refine hR.mono ?_; rintro e w3 ⟨tt, rfl, HG⟩))
    all_goals cases tt
    all_goals gi_wp2
    all_goals first | exact HG.out | exact ⟨⟨rfl, HG.out.1⟩, HG.out.2⟩
  case done =>
    rintro X hNM ⟨h1, _, _⟩ hK
    gi_wp2
    refine ⟨by simp, .inl ⟨_, _, rfl, run_takeDeferred hK, ?_⟩⟩
    exact ⟨_, results_none rfl _ _ _, ⟨_, rfl⟩, .inl ⟨Nat.le_refl _, hJ _ _ _ h1 (Kept.put (by omega) hK rfl)⟩⟩
  case stop =>
    rintro cd k X hk ⟨rfl, h1, h2⟩ hK
    gi_wp2
    refine ⟨by simp, .inl ⟨_, _, rfl, run_takeDeferred hK, ?_⟩⟩
    exact ⟨_, results_none rfl _ _ _, ⟨_, rfl⟩, .inr ⟨k, h1, hJx _ _ _ h2 (Kept.put (by omega) hK rfl)⟩⟩

end Go.Proofs.YthgpjlmdllihmaaGreat
/- frames: All, made. -/
namespace Go.Proofs.YthgpjlmdllihmaaGreat
open Go.RowKit Go.Shelf
set_option linter.unusedVariables false
attribute [local go_sem] Oper.semAt_some

theorem all_is (A : Option Addr) (n c : Nat) (xs : List UInt8) (w : World) (hn : xs.length = n) (hb : BytesAt w (.slice A n c) xs) (hm : n ≤ 140737488351232) : Calls Tryz.prog 74 #[.slice A n c] w fun e w' =>
    ∃ g B d, e = .returned (.func (.func 91) #[] #[.pointer (some ⟨g, 0, none⟩)]) ∧ RestD g B n d xs w' ∧ w.heap.size ≤ g ∧ (∀ b, (Value.slice B n d).ownBlock = some b → w.heap.size ≤ b) ∧ Keeps [] w w' := by
  have hb' : BytesAt w (.slice A xs.length c) xs := by rw [hn]; exact hb
  have HC := Lib.hid (clone_any (.slice A xs.length c) xs w (by omega) hb')
  rw [hn] at HC
  have HN := Lib.hid hn
  clear hb hb' hn
  go_enter Tryz.func74, Tryz.ntmps74
  go_wp2_with fail
  refine HC.out.mono ?_
  rintro e w1 ⟨B, d, rfl, ho, hb1⟩
  obtain ⟨hbb, hown⟩ := own_bytes ho HN.out
  have HBB := Lib.hid hbb
  have HOW := Lib.hid hown
  have HK := Lib.hid (Keeps.of_below (bs := []) hb1)
  clear ho hb1 hbb hown
  go_wp2_with fail
  go_ret
  exact ⟨_, _, _, rfl, ⟨by rw [World.cell?_alloc_new]; rfl, HBB.out.grow ((Keeps.refl [] _).alloc _)⟩, HK.out.size, HOW.out, HK.out.alloc _⟩

end Go.Proofs.YthgpjlmdllihmaaGreat
