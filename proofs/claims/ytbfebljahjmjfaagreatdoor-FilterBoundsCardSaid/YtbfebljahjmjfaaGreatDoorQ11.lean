import Derived.Test.YtbfebljahjmjfaaGreatDoorQ10
import Derived.BigQuiet
/- filter: what each Kind means; walked. -/
namespace Go.Proofs.YtbfebljahjmjfaaGreatDoor
open Go.RowKit Go.Shelf
set_option linter.unusedVariables false
set_option linter.unusedSimpArgs false
set_option maxRecDepth 100000

theorem valsS_fits {w : World} {S : SubV} {lo lb : List At7} (h : SubOk w S lo lb) (v : Txt) : (∀ s ∈ valsS (ents lo) (ents lb) v, s.length ≤ 9223372036854775807) ∧ (valsS (ents lo) (ents lb) v).length ≤ 100000 := by
 unfold valsS
 cases hq : (ents lb).find? (fun a => a.1 == v) with
 | none => exact ⟨cont2_fits h.own _, cont2_few h.own h.few _⟩
 | some a =>
  have hm := List.mem_of_find?_eq_some hq
  unfold ents at hm
  obtain ⟨x, hx, rfl⟩ := List.mem_map.1 hm
  have h2 : x.vs.length = x.n := (h.beside.2.1 x hx).2.2.2.1
  have h1 := h.few2.2 x hx
  exact ⟨(h.beside.2.1 x hx).2.2.2.2.1, by show x.vs.length ≤ _; omega⟩
/-- What a filter means, from what those in its Of mean. -/
def meanK (own beside : List Att) (k : Int) (s v : Txt) (of : List Bool) : Bool :=
 if k = 1 then !of.contains false else if k = 2 then of.contains true else if k = 3 then !(of.head?.getD false) else
 if k = 4 then (valsS own beside s).any (fun x => smallL x == smallL v) else if k = 5 then (valsS own beside s).any (fun x => begP (smallL v) (smallL x)) else decide (0 < (valsS own beside s).length)
theorem results_cell1 {P : Program} {fn : Func} {p : Tmp} {t1 : TypeId} (h : fn.results = #[.cell p t1]) (tmps : Array Value) (w : World) {a : Nat} {u : Value}
  (ha : tmps.getD p undef = .pointer (some ⟨a, 0, none⟩)) (h1 : (loadVar t1 ⟨a, 0, none⟩).run P w = .ok u w) : (results fn tmps).run P w = .ok u w := by
 have ha' : tmps[p]?.getD undef = .pointer (some ⟨a, 0, none⟩) := by simpa using ha
 simp [results, h, ha', asAddr, h1]
theorem meanings_is (w : World) : Calls Tryz.prog 129 #[] w fun e w' => e = .returned (.agg #[.nilFunc, .func (.func 193) #[] #[], .func (.func 194) #[] #[], .func (.func 195) #[] #[], .func (.func 196) #[] #[], .func (.func 197) #[] #[], .func (.func 198) #[] #[]]) ∧ Keeps [] w w' := by
 go_enter Tryz.func129, Tryz.ntmps129
 go_wp2_with fail
 refine bodyPost_ret (results_cell1 rfl _ _ rfl (run_loadVar_row _ _ _ _ _ (0, 0) _ (heap_new8 w _) Tryz.underlying164 rfl (by kernel_rfl))) rfl ?_
 exact ⟨rfl, (Keeps.refl [] w).alloc _⟩
set_option maxHeartbeats 4000000 in
theorem byall_is (S : SubV) (h : FH) (A : Option Addr) (n c : Nat) (of : List Bool) (lo lb : List At7) (w : World) (hS : SubOk w S lo lb) (hs : h.s.length ≤ 9223372036854775807) (hv : h.v.length ≤ 9223372036854775807) (hof : BoolsIn w A n of) (hn : n ≤ 1000000) :
  Calls Tryz.prog 193 #[S.val, h.val, .slice A n c] w fun e w' => e = .returned (.bool (!of.contains false)) ∧ Keeps [] w w' := by
 obtain ⟨k, B, m, d, s, v⟩ := h
 dsimp only at hs hv
 obtain ⟨SA, Sn, Sc, SB, Sm, Sd⟩ := S
 have b1 := heap_new8 w (.cells #[.slice SA Sn Sc, .slice SB Sm Sd] 110)
 have k1 : Keeps [] w (w.alloc (.cells #[.slice SA Sn Sc, .slice SB Sm Sd] 110)) := (Keeps.refl [] w).alloc _
 have k2 : Keeps [] (w.alloc (.cells #[.slice SA Sn Sc, .slice SB Sm Sd] 110)) ((w.alloc (.cells #[.slice SA Sn Sc, .slice SB Sm Sd] 110)).alloc (.cells #[.int .i64 k, .slice B m d, .string ⟨s.toArray⟩, .string ⟨v.toArray⟩] 26)) := (Keeps.refl [] _).alloc _
 have b2 := heap_new8 (w.alloc (.cells #[.slice SA Sn Sc, .slice SB Sm Sd] 110)) (.cells #[.int .i64 k, .slice B m d, .string ⟨s.toArray⟩, .string ⟨v.toArray⟩] 26)
 rw [World.size_alloc] at b2
 have HB1 := Lib.hid (blk_keep b1 k2 (by simp))
 have HB2 := Lib.hid b2
 have HKB := Lib.hid (k1.trans' k2)
 clear b1 b2 k1 k2
 have HC := Lib.hid (containsb_is A n c of false ((w.alloc (.cells #[.slice SA Sn Sc, .slice SB Sm Sd] 110)).alloc (.cells #[.int .i64 k, .slice B m d, .string ⟨s.toArray⟩, .string ⟨v.toArray⟩] 26)) (BoolsIn.grow HKB.out hof) hn)
 obtain ⟨q, hq⟩ : ∃ q, of.contains false = q := ⟨_, rfl⟩
 rw [hq] at HC ⊢
 unfold SubV.val FH.val tv
 dsimp only
 clear hq hS hof
 go_enter Tryz.func193, Tryz.ntmps193
 go_wp2_with fail
 refine HC.out.mono ?_
 rintro e w1 ⟨rfl, rfl⟩
 go_wp2_with fail
 go_ret
 exact ⟨rfl, HKB.out⟩
set_option maxHeartbeats 4000000 in
theorem byone_is (S : SubV) (h : FH) (A : Option Addr) (n c : Nat) (of : List Bool) (lo lb : List At7) (w : World) (hS : SubOk w S lo lb) (hs : h.s.length ≤ 9223372036854775807) (hv : h.v.length ≤ 9223372036854775807) (hof : BoolsIn w A n of) (hn : n ≤ 1000000) :
  Calls Tryz.prog 194 #[S.val, h.val, .slice A n c] w fun e w' => e = .returned (.bool (of.contains true)) ∧ Keeps [] w w' := by
 obtain ⟨k, B, m, d, s, v⟩ := h
 dsimp only at hs hv
 obtain ⟨SA, Sn, Sc, SB, Sm, Sd⟩ := S
 have b1 := heap_new8 w (.cells #[.slice SA Sn Sc, .slice SB Sm Sd] 110)
 have k1 : Keeps [] w (w.alloc (.cells #[.slice SA Sn Sc, .slice SB Sm Sd] 110)) := (Keeps.refl [] w).alloc _
 have k2 : Keeps [] (w.alloc (.cells #[.slice SA Sn Sc, .slice SB Sm Sd] 110)) ((w.alloc (.cells #[.slice SA Sn Sc, .slice SB Sm Sd] 110)).alloc (.cells #[.int .i64 k, .slice B m d, .string ⟨s.toArray⟩, .string ⟨v.toArray⟩] 26)) := (Keeps.refl [] _).alloc _
 have b2 := heap_new8 (w.alloc (.cells #[.slice SA Sn Sc, .slice SB Sm Sd] 110)) (.cells #[.int .i64 k, .slice B m d, .string ⟨s.toArray⟩, .string ⟨v.toArray⟩] 26)
 rw [World.size_alloc] at b2
 have HB1 := Lib.hid (blk_keep b1 k2 (by simp))
 have HB2 := Lib.hid b2
 have HKB := Lib.hid (k1.trans' k2)
 clear b1 b2 k1 k2
 have HC := Lib.hid (containsb_is A n c of true ((w.alloc (.cells #[.slice SA Sn Sc, .slice SB Sm Sd] 110)).alloc (.cells #[.int .i64 k, .slice B m d, .string ⟨s.toArray⟩, .string ⟨v.toArray⟩] 26)) (BoolsIn.grow HKB.out hof) hn)
 obtain ⟨q, hq⟩ : ∃ q, of.contains true = q := ⟨_, rfl⟩
 rw [hq] at HC ⊢
 unfold SubV.val FH.val tv
 dsimp only
 clear hq hS hof
 go_enter Tryz.func194, Tryz.ntmps194
 go_wp2_with fail
 refine HC.out.mono ?_
 rintro e w1 ⟨rfl, rfl⟩
 go_wp2_with fail
 go_ret
 exact ⟨rfl, HKB.out⟩
set_option maxHeartbeats 4000000 in
theorem bynot_is (S : SubV) (h : FH) (A : Option Addr) (n c : Nat) (of : List Bool) (lo lb : List At7) (w : World) (hS : SubOk w S lo lb) (hs : h.s.length ≤ 9223372036854775807) (hv : h.v.length ≤ 9223372036854775807) (hof : BoolsIn w A n of) (hn : n ≤ 1000000) (h1 : 0 < n) :
  Calls Tryz.prog 195 #[S.val, h.val, .slice A n c] w fun e w' => e = .returned (.bool (!(of.head?.getD false))) ∧ Keeps [] w w' := by
 obtain ⟨k, B, m, d, s, v⟩ := h
 dsimp only at hs hv
 obtain ⟨SA, Sn, Sc, SB, Sm, Sd⟩ := S
 have b1 := heap_new8 w (.cells #[.slice SA Sn Sc, .slice SB Sm Sd] 110)
 have k1 : Keeps [] w (w.alloc (.cells #[.slice SA Sn Sc, .slice SB Sm Sd] 110)) := (Keeps.refl [] w).alloc _
 have k2 : Keeps [] (w.alloc (.cells #[.slice SA Sn Sc, .slice SB Sm Sd] 110)) ((w.alloc (.cells #[.slice SA Sn Sc, .slice SB Sm Sd] 110)).alloc (.cells #[.int .i64 k, .slice B m d, .string ⟨s.toArray⟩, .string ⟨v.toArray⟩] 26)) := (Keeps.refl [] _).alloc _
 have b2 := heap_new8 (w.alloc (.cells #[.slice SA Sn Sc, .slice SB Sm Sd] 110)) (.cells #[.int .i64 k, .slice B m d, .string ⟨s.toArray⟩, .string ⟨v.toArray⟩] 26)
 rw [World.size_alloc] at b2
 have HB1 := Lib.hid (blk_keep b1 k2 (by simp))
 have HB2 := Lib.hid b2
 have HKB := Lib.hid (k1.trans' k2)
 clear b1 b2 k1 k2
 obtain ⟨hl, hc9⟩ := BoolsIn.grow HKB.out hof
 obtain ⟨b, o, hA9, hcc⟩ := hc9 h1
 subst hA9
 obtain ⟨q, hu⟩ : ∃ q, of[0]? = some q := ⟨_, List.getElem?_eq_getElem (by omega)⟩
 have c0 := hcc 0 q hu
 rw [Nat.add_zero] at c0
 rw [show of.head? = some q by rw [List.head?_eq_getElem?]; exact hu]
 have hni : (0 : Int) < (n : Int) := by omega
 unfold SubV.val FH.val tv
 dsimp only [Option.getD_some]
 clear hcc hu hl hc9 hS hof
 go_enter Tryz.func195, Tryz.ntmps195
 go_wp2_with fail
 go_ret
 exact ⟨rfl, HKB.out⟩
set_option maxHeartbeats 4000000 in
theorem byname_is (S : SubV) (h : FH) (A : Option Addr) (n c : Nat) (of : List Bool) (lo lb : List At7) (w : World) (hS : SubOk w S lo lb) (hs : h.s.length ≤ 9223372036854775807) (hv : h.v.length ≤ 9223372036854775807) (hof : BoolsIn w A n of) (hn : n ≤ 1000000) :
  Calls Tryz.prog 198 #[S.val, h.val, .slice A n c] w fun e w' => e = .returned (.bool (decide (0 < (valsS (ents lo) (ents lb) h.s).length))) ∧ Keeps [] w w' := by
 obtain ⟨k, B, m, d, s, v⟩ := h
 dsimp only at hs hv
 obtain ⟨SA, Sn, Sc, SB, Sm, Sd⟩ := S
 have b1 := heap_new8 w (.cells #[.slice SA Sn Sc, .slice SB Sm Sd] 110)
 have k1 : Keeps [] w (w.alloc (.cells #[.slice SA Sn Sc, .slice SB Sm Sd] 110)) := (Keeps.refl [] w).alloc _
 have k2 : Keeps [] (w.alloc (.cells #[.slice SA Sn Sc, .slice SB Sm Sd] 110)) ((w.alloc (.cells #[.slice SA Sn Sc, .slice SB Sm Sd] 110)).alloc (.cells #[.int .i64 k, .slice B m d, .string ⟨s.toArray⟩, .string ⟨v.toArray⟩] 26)) := (Keeps.refl [] _).alloc _
 have b2 := heap_new8 (w.alloc (.cells #[.slice SA Sn Sc, .slice SB Sm Sd] 110)) (.cells #[.int .i64 k, .slice B m d, .string ⟨s.toArray⟩, .string ⟨v.toArray⟩] 26)
 rw [World.size_alloc] at b2
 have HB1 := Lib.hid (blk_keep b1 k2 (by simp))
 have HB2 := Lib.hid b2
 have HKB := Lib.hid (k1.trans' k2)
 clear b1 b2 k1 k2
 have HV := Lib.hid (values8_is ⟨SA, Sn, Sc, SB, Sm, Sd⟩ lo lb s ((w.alloc (.cells #[.slice SA Sn Sc, .slice SB Sm Sd] 110)).alloc (.cells #[.int .i64 k, .slice B m d, .string ⟨s.toArray⟩, .string ⟨v.toArray⟩] 26)) (hS.grow HKB.out) hs)
 have hf := (valsS_fits hS s).2
 dsimp only
 generalize valsS (ents lo) (ents lb) s = vs at HV hf ⊢
 obtain ⟨q, hq⟩ : ∃ q, decide (0 < vs.length) = q := ⟨_, rfl⟩
 rw [hq]
 obtain ⟨⟨z0, z1⟩, _⟩ := blk2 HB1.out
 obtain ⟨⟨y0, y1, y2, y3⟩, _⟩ := four_facts8 HB2.out
 unfold SubV.val FH.val tv at *
 dsimp only at HV ⊢
 clear hS hof
 go_enter Tryz.func198, Tryz.ntmps198
 go_wp2_with fail
 refine HV.out.mono ?_
 rintro e w1 ⟨A1, c1, rfl, _, _, _, hk1⟩
 have HK1 := Lib.hid (HKB.out.trans' hk1)
 clear hk1
 by_cases h0 : 0 < vs.length
 ·have h0i : (0 : Int) < (vs.length : Int) := by omega
  obtain rfl : q = true := by rw [← hq]; simpa using h0
  clear hq
  go_wp2_with fail
  go_ret
  exact ⟨by first | rfl | simp, HK1.out⟩
 ·have h0i : ¬ (0 : Int) < (vs.length : Int) := by omega
  obtain rfl : q = false := by rw [← hq]; simpa using h0
  clear hq
  go_wp2_with fail
  go_ret
  exact ⟨by first | rfl | simp, HK1.out⟩
theorem byvaluec_is (g : Nat) (z x : Txt) (w : World) (hz : w.cell? ⟨g, 0, none⟩ = some (tv z)) (hx : x.length ≤ 9223372036854775807) (hzl : z.length ≤ 9223372036854775807) :
  Calls Tryz.prog 257 #[tv x, .pointer (some ⟨g, 0, none⟩)] w fun e w' => e = .returned (.bool (smallL x == z)) ∧ Keeps [] w w' := by
 have HSM := Lib.hid (fun X => small_is x X hx)
 have hul : (smallL x).length ≤ 9223372036854775807 := by rw [smallL_len]; exact hx
 have HZ := Lib.hid (fun X (hX : Keeps [] w X) => (hX.cell (lt_of_cell hz) (by simp)).trans hz)
 generalize smallL x = u at HSM hul ⊢
 obtain ⟨q, hq⟩ : ∃ q, (u == z) = q := ⟨_, rfl⟩
 obtain ⟨hs1, hs2, hs3⟩ := tx_beq u z q hq
 rw [hq]
 unfold tv at *
 clear hz
 go_enter Tryz.func257, Tryz.ntmps257
 go_wp2_with fail
 refine wp_region_held_drew (S := (fun X => Keeps [] w X)) (by kernel_rfl) ((Keeps.refl [] w).drew) ?_
 intro HS
 refine wpAnyH_take (i := 0) (v := .string ⟨x.toArray⟩) rfl (by kernel_rfl) (by kernel_rfl) (by kernel_rfl) (fun _ _ _ h => h) (Or.inl ⟨by kernel_rfl, ?_⟩) HS ?_
 ·intro w5 hw5
  go_simp
 simp only [Act.put, aL]
 refine wpAnyH_take (i := 2) (v := .string ⟨z.toArray⟩) rfl (by kernel_rfl) (by kernel_rfl) (by kernel_rfl) (fun _ _ _ h => h) (Or.inl ⟨by kernel_rfl, ?_⟩) HS ?_
 ·intro w5 hw5
  have d0 := HZ.out w5 hw5
  go_simp
 simp only [Act.put, aL]
 refine wpAnyH_ready (rs := [1]) (by kernel_rfl) (by simp) ?_
 refine AllReadyH.cons rfl (fun K hK => ?_) AllReadyH.nil
 go_simp
 refine (HSM.out _).mono ?_
 rintro e w1 ⟨rfl, hk1⟩
 have HK1 := Lib.hid (((Keeps.refl [] w).drew).trans' hk1)
 clear hk1
 refine hK.out _ _ HK1.out (fun HS => ?_)
 clear hK K
 try simp only [Act.put, aL]
 refine wpAnyH_take (i := 3) (v := .bool q) rfl (by kernel_rfl) (by kernel_rfl) (by kernel_rfl) (fun _ _ _ h => h) (Or.inl ⟨by kernel_rfl, ?_⟩) HS ?_
 ·intro w5 hw5
  go_simp
 simp only [Act.put, aL]
 refine wpAnyH_take (i := 4) (v := .bool q) rfl (by kernel_rfl) (by kernel_rfl) (by kernel_rfl) (fun _ _ _ h => h) (Or.inl ⟨by kernel_rfl, ?_⟩) HS ?_
 ·intro w5 hw5
  go_simp
 simp only [Act.put, aL]
 refine wpAnyH_done (by kernel_rfl) ?_ _
 go_wp2_with fail
 go_ret
 exact ⟨rfl, HK1.out⟩
theorem bybeginc_is (g : Nat) (z x : Txt) (w : World) (hz : w.cell? ⟨g, 0, none⟩ = some (tv z)) (hx : x.length ≤ 9223372036854775807) (hzl : z.length ≤ 9223372036854775807) :
  Calls Tryz.prog 258 #[tv x, .pointer (some ⟨g, 0, none⟩)] w fun e w' => e = .returned (.bool (begP z (smallL x))) ∧ Keeps [] w w' := by
 have HSM := Lib.hid (fun X => small_is x X hx)
 have hul : (smallL x).length ≤ 9223372036854775807 := by rw [smallL_len]; exact hx
 have HZ := Lib.hid (fun X (hX : Keeps [] w X) => (hX.cell (lt_of_cell hz) (by simp)).trans hz)
 generalize smallL x = u at HSM hul ⊢
 have HPX := Lib.hid (fun X => sprefix_is u z X hul hzl)
 obtain ⟨q, hq⟩ : ∃ q, begP z u = q := ⟨_, rfl⟩
 rw [hq] at HPX ⊢
 unfold tv at *
 clear hz hq
 go_enter Tryz.func258, Tryz.ntmps258
 go_wp2_with fail
 refine wp_region_held_drew (S := (fun X => Keeps [] w X)) (by kernel_rfl) ((Keeps.refl [] w).drew) ?_
 intro HS
 refine wpAnyH_take (i := 0) (v := .string ⟨x.toArray⟩) rfl (by kernel_rfl) (by kernel_rfl) (by kernel_rfl) (fun _ _ _ h => h) (Or.inl ⟨by kernel_rfl, ?_⟩) HS ?_
 ·intro w5 hw5
  go_simp
 simp only [Act.put, aL]
 refine wpAnyH_take (i := 2) (v := .string ⟨z.toArray⟩) rfl (by kernel_rfl) (by kernel_rfl) (by kernel_rfl) (fun _ _ _ h => h) (Or.inl ⟨by kernel_rfl, ?_⟩) HS ?_
 ·intro w5 hw5
  have d0 := HZ.out w5 hw5
  go_simp
 simp only [Act.put, aL]
 refine wpAnyH_ready (rs := [1]) (by kernel_rfl) (by simp) ?_
 refine AllReadyH.cons rfl (fun K hK => ?_) AllReadyH.nil
 go_simp
 refine (HSM.out _).mono ?_
 rintro e w1 ⟨rfl, hk1⟩
 have HK1 := Lib.hid (((Keeps.refl [] w).drew).trans' hk1)
 clear hk1
 refine hK.out _ _ HK1.out (fun HS => ?_)
 clear hK K
 try simp only [Act.put, aL]
 refine wpAnyH_ready (rs := [3]) (by kernel_rfl) (by simp) ?_
 refine AllReadyH.cons rfl (fun K hK => ?_) AllReadyH.nil
 go_simp
 refine (HPX.out _).mono ?_
 rintro e w2 ⟨rfl, hk2⟩
 have HK2 := Lib.hid (HK1.out.trans' hk2)
 clear hk2
 refine hK.out _ _ HK2.out (fun HS => ?_)
 clear hK K
 try simp only [Act.put, aL]
 refine wpAnyH_take (i := 4) (v := .bool q) rfl (by kernel_rfl) (by kernel_rfl) (by kernel_rfl) (fun _ _ _ h => h) (Or.inl ⟨by kernel_rfl, ?_⟩) HS ?_
 ·intro w5 hw5
  go_simp
 simp only [Act.put, aL]
 refine wpAnyH_done (by kernel_rfl) ?_ _
 go_wp2_with fail
 go_ret
 exact ⟨rfl, HK2.out⟩
set_option maxHeartbeats 4000000 in
theorem byvalue_is (S : SubV) (h : FH) (A : Option Addr) (n c : Nat) (of : List Bool) (lo lb : List At7) (w : World) (hS : SubOk w S lo lb) (hs : h.s.length ≤ 9223372036854775807) (hv : h.v.length ≤ 9223372036854775807) (hof : BoolsIn w A n of) (hn : n ≤ 1000000) :
  Calls Tryz.prog 196 #[S.val, h.val, .slice A n c] w fun e w' => e = .returned (.bool ((valsS (ents lo) (ents lb) h.s).any (fun x => smallL x == smallL h.v))) ∧ Keeps [] w w' := by
 obtain ⟨k, B, m, d, s, v⟩ := h
 dsimp only at hs hv
 obtain ⟨SA, Sn, Sc, SB, Sm, Sd⟩ := S
 have b1 := heap_new8 w (.cells #[.slice SA Sn Sc, .slice SB Sm Sd] 110)
 have k1 : Keeps [] w (w.alloc (.cells #[.slice SA Sn Sc, .slice SB Sm Sd] 110)) := (Keeps.refl [] w).alloc _
 have k2 : Keeps [] (w.alloc (.cells #[.slice SA Sn Sc, .slice SB Sm Sd] 110)) ((w.alloc (.cells #[.slice SA Sn Sc, .slice SB Sm Sd] 110)).alloc (.cells #[.int .i64 k, .slice B m d, .string ⟨s.toArray⟩, .string ⟨v.toArray⟩] 26)) := (Keeps.refl [] _).alloc _
 have b2 := heap_new8 (w.alloc (.cells #[.slice SA Sn Sc, .slice SB Sm Sd] 110)) (.cells #[.int .i64 k, .slice B m d, .string ⟨s.toArray⟩, .string ⟨v.toArray⟩] 26)
 rw [World.size_alloc] at b2
 have HB1 := Lib.hid (blk_keep b1 k2 (by simp))
 have HB2 := Lib.hid b2
 have HKB := Lib.hid (k1.trans' k2)
 clear b1 b2 k1 k2
 have HV := Lib.hid (fun X (hX : Keeps [] w X) => values8_is ⟨SA, Sn, Sc, SB, Sm, Sd⟩ lo lb s X (hS.grow hX) hs)
 obtain ⟨hf1, hf2⟩ := valsS_fits hS s
 have HF1 := Lib.hid hf1
 have HSM := Lib.hid (fun X => small_is v X hv)
 have hzl : (smallL v).length ≤ 9223372036854775807 := by rw [smallL_len]; exact hv
 dsimp only
 generalize valsS (ents lo) (ents lb) s = vs at HV HF1 hf2 ⊢
 generalize smallL v = z at HSM hzl ⊢
 obtain ⟨q, hq⟩ : ∃ q, vs.any (fun x => smallL x == z) = q := ⟨_, rfl⟩
 rw [hq]
 have HQ := Lib.hid hq
 have hmf : ∀ (fn : Fn) (first cap : Array Value) (w : World), (Instr.makeFunc fn first cap).run Tryz.prog w = .ok (.func fn first cap) w := fun _ _ _ _ => rfl
 obtain ⟨⟨z0, z1⟩, _⟩ := blk2 HB1.out
 obtain ⟨⟨y0, y1, y2, y3⟩, _⟩ := four_facts8 HB2.out
 unfold SubV.val FH.val tv at *
 dsimp only at HV ⊢
 clear hS hof hf1 hq
 go_enter Tryz.func196, Tryz.ntmps196
 go_wp2_with fail
 refine (HSM.out _).mono ?_
 rintro e w1 ⟨rfl, hk1⟩
 have HK1 := Lib.hid (HKB.out.trans' hk1)
 have k3 : Keeps [] w1 (w1.alloc (.cells #[.string ⟨z.toArray⟩] 9)) := (Keeps.refl [] w1).alloc _
 have HZ3 := Lib.hid (cell_of_blk (heap_new8 w1 (.cells #[.string ⟨z.toArray⟩] 9)) 0)
 have HK3 := Lib.hid (HK1.out.trans' k3)
 obtain ⟨⟨z0, z1⟩, _⟩ := blk2 (blk_keep (blk_keep HB1.out hk1 (by simp)) k3 (by simp))
 obtain ⟨⟨y0, y1, y2, y3⟩, _⟩ := four_facts8 (blk_keep (blk_keep HB2.out hk1 (by simp)) k3 (by simp))
 clear hk1 k3
 go_wp2_with fail
 refine (HV.out _ HK3.out).mono ?_
 rintro e w2 ⟨A2, c2, rfl, hs2, _, _, hk2⟩
 have HK2 := Lib.hid (HK3.out.trans' hk2)
 have HZ2 := Lib.hid ((hk2.cell (lt_of_cell HZ3.out) (by simp)).trans HZ3.out)
 have HCF := Lib.hid (containsfv_is w1.heap.size (fun x => smallL x == z) A2 vs.length c2 vs w2 (fun x hx X hX => byvaluec_is w1.heap.size z x X ((hX.cell (lt_of_cell HZ2.out) (by simp)).trans HZ2.out) (HF1.out x hx) hzl) hs2 (by omega))
 rw [HQ.out] at HCF
 clear hk2 hs2
 go_wp2_with fail
 refine HCF.out.mono ?_
 rintro e w3 ⟨rfl, hk3⟩
 have HK4 := Lib.hid (HK2.out.trans' hk3)
 clear hk3
 go_wp2_with fail
 go_ret
 exact ⟨rfl, HK4.out⟩
set_option maxHeartbeats 4000000 in
theorem bybegin_is (S : SubV) (h : FH) (A : Option Addr) (n c : Nat) (of : List Bool) (lo lb : List At7) (w : World) (hS : SubOk w S lo lb) (hs : h.s.length ≤ 9223372036854775807) (hv : h.v.length ≤ 9223372036854775807) (hof : BoolsIn w A n of) (hn : n ≤ 1000000) :
  Calls Tryz.prog 197 #[S.val, h.val, .slice A n c] w fun e w' => e = .returned (.bool ((valsS (ents lo) (ents lb) h.s).any (fun x => begP (smallL h.v) (smallL x)))) ∧ Keeps [] w w' := by
 obtain ⟨k, B, m, d, s, v⟩ := h
 dsimp only at hs hv
 obtain ⟨SA, Sn, Sc, SB, Sm, Sd⟩ := S
 have b1 := heap_new8 w (.cells #[.slice SA Sn Sc, .slice SB Sm Sd] 110)
 have k1 : Keeps [] w (w.alloc (.cells #[.slice SA Sn Sc, .slice SB Sm Sd] 110)) := (Keeps.refl [] w).alloc _
 have k2 : Keeps [] (w.alloc (.cells #[.slice SA Sn Sc, .slice SB Sm Sd] 110)) ((w.alloc (.cells #[.slice SA Sn Sc, .slice SB Sm Sd] 110)).alloc (.cells #[.int .i64 k, .slice B m d, .string ⟨s.toArray⟩, .string ⟨v.toArray⟩] 26)) := (Keeps.refl [] _).alloc _
 have b2 := heap_new8 (w.alloc (.cells #[.slice SA Sn Sc, .slice SB Sm Sd] 110)) (.cells #[.int .i64 k, .slice B m d, .string ⟨s.toArray⟩, .string ⟨v.toArray⟩] 26)
 rw [World.size_alloc] at b2
 have HB1 := Lib.hid (blk_keep b1 k2 (by simp))
 have HB2 := Lib.hid b2
 have HKB := Lib.hid (k1.trans' k2)
 clear b1 b2 k1 k2
 have HV := Lib.hid (fun X (hX : Keeps [] w X) => values8_is ⟨SA, Sn, Sc, SB, Sm, Sd⟩ lo lb s X (hS.grow hX) hs)
 obtain ⟨hf1, hf2⟩ := valsS_fits hS s
 have HF1 := Lib.hid hf1
 have HSM := Lib.hid (fun X => small_is v X hv)
 have hzl : (smallL v).length ≤ 9223372036854775807 := by rw [smallL_len]; exact hv
 dsimp only
 generalize valsS (ents lo) (ents lb) s = vs at HV HF1 hf2 ⊢
 generalize smallL v = z at HSM hzl ⊢
 obtain ⟨q, hq⟩ : ∃ q, vs.any (fun x => begP (z) (smallL x)) = q := ⟨_, rfl⟩
 rw [hq]
 have HQ := Lib.hid hq
 have hmf : ∀ (fn : Fn) (first cap : Array Value) (w : World), (Instr.makeFunc fn first cap).run Tryz.prog w = .ok (.func fn first cap) w := fun _ _ _ _ => rfl
 obtain ⟨⟨z0, z1⟩, _⟩ := blk2 HB1.out
 obtain ⟨⟨y0, y1, y2, y3⟩, _⟩ := four_facts8 HB2.out
 unfold SubV.val FH.val tv at *
 dsimp only at HV ⊢
 clear hS hof hf1 hq
 go_enter Tryz.func197, Tryz.ntmps197
 go_wp2_with fail
 refine (HSM.out _).mono ?_
 rintro e w1 ⟨rfl, hk1⟩
 have HK1 := Lib.hid (HKB.out.trans' hk1)
 have k3 : Keeps [] w1 (w1.alloc (.cells #[.string ⟨z.toArray⟩] 9)) := (Keeps.refl [] w1).alloc _
 have HZ3 := Lib.hid (cell_of_blk (heap_new8 w1 (.cells #[.string ⟨z.toArray⟩] 9)) 0)
 have HK3 := Lib.hid (HK1.out.trans' k3)
 obtain ⟨⟨z0, z1⟩, _⟩ := blk2 (blk_keep (blk_keep HB1.out hk1 (by simp)) k3 (by simp))
 obtain ⟨⟨y0, y1, y2, y3⟩, _⟩ := four_facts8 (blk_keep (blk_keep HB2.out hk1 (by simp)) k3 (by simp))
 clear hk1 k3
 go_wp2_with fail
 refine (HV.out _ HK3.out).mono ?_
 rintro e w2 ⟨A2, c2, rfl, hs2, _, _, hk2⟩
 have HK2 := Lib.hid (HK3.out.trans' hk2)
 have HZ2 := Lib.hid ((hk2.cell (lt_of_cell HZ3.out) (by simp)).trans HZ3.out)
 have HCF := Lib.hid (containsfb_is w1.heap.size (fun x => begP (z) (smallL x)) A2 vs.length c2 vs w2 (fun x hx X hX => bybeginc_is w1.heap.size z x X ((hX.cell (lt_of_cell HZ2.out) (by simp)).trans HZ2.out) (HF1.out x hx) hzl) hs2 (by omega))
 rw [HQ.out] at HCF
 clear hk2 hs2
 go_wp2_with fail
 refine HCF.out.mono ?_
 rintro e w3 ⟨rfl, hk3⟩
 have HK4 := Lib.hid (HK2.out.trans' hk3)
 clear hk3
 go_wp2_with fail
 go_ret
 exact ⟨rfl, HK4.out⟩
end Go.Proofs.YtbfebljahjmjfaaGreatDoor
