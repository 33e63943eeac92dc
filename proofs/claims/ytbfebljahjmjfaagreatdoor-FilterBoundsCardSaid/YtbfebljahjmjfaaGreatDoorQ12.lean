import Derived.Test.YtbfebljahjmjfaaGreatDoorQ11
import Derived.BigQuiet
/- filter: isMeant's closure; walked. -/
namespace Go.Proofs.YtbfebljahjmjfaaGreatDoor
open Go.RowKit Go.Shelf
set_option linter.unusedVariables false
set_option linter.unusedSimpArgs false
set_option maxRecDepth 100000

set_option maxHeartbeats 8000000 in
theorem ismeantc_is (gs : Nat) (S : SubV) (h : FH) (A : Option Addr) (n c : Nat) (of : List Bool) (lo lb : List At7) (w : World) (hgs : w.heap[gs]? = some (.cells #[.slice S.A S.n S.c, .slice S.B S.m S.d] 110 (0, 0))) (hS : SubOk w S lo lb) (hk1 : 1 ≤ h.k) (hk6 : h.k ≤ 6) (hk3 : h.k = 3 → 0 < n) (hs : h.s.length ≤ 9223372036854775807) (hv : h.v.length ≤ 9223372036854775807) (hof : BoolsIn w A n of) (hn : n ≤ 1000000) :
  Calls Tryz.prog 128 #[h.val, .slice A n c, .pointer (some ⟨gs, 0, none⟩)] w fun e w' => e = .returned (.bool (meanK (ents lo) (ents lb) h.k h.s h.v of)) ∧ Keeps [] w w' := by
 have HM := Lib.hid meanings_is
 have H1 := Lib.hid (fun X (hX : Keeps [] w X) => byall_is S h A n c of lo lb X (hS.grow hX) hs hv (hof.grow hX) hn)
 have H2 := Lib.hid (fun X (hX : Keeps [] w X) => byone_is S h A n c of lo lb X (hS.grow hX) hs hv (hof.grow hX) hn)
 have H3 := Lib.hid (fun X (hX : Keeps [] w X) (h0 : 0 < n) => bynot_is S h A n c of lo lb X (hS.grow hX) hs hv (hof.grow hX) hn h0)
 have H4 := Lib.hid (fun X (hX : Keeps [] w X) => byvalue_is S h A n c of lo lb X (hS.grow hX) hs hv (hof.grow hX) hn)
 have H5 := Lib.hid (fun X (hX : Keeps [] w X) => bybegin_is S h A n c of lo lb X (hS.grow hX) hs hv (hof.grow hX) hn)
 have H6 := Lib.hid (fun X (hX : Keeps [] w X) => byname_is S h A n c of lo lb X (hS.grow hX) hs hv (hof.grow hX) hn)
 have HGS := Lib.hid hgs
 obtain ⟨k, B, m, d, s, v⟩ := h
 dsimp only at hk1 hk6 hk3
 have HB1 := Lib.hid (heap_new8 w (.cells #[.int .i64 k, .slice B m d, .string ⟨s.toArray⟩, .string ⟨v.toArray⟩] 26))
 have HKB : Hid (Keeps [] w (w.alloc (.cells #[.int .i64 k, .slice B m d, .string ⟨s.toArray⟩, .string ⟨v.toArray⟩] 26))) := (Keeps.refl [] w).alloc _
 have HGS1 := Lib.hid (blk_keep hgs HKB.out (by simp))
 obtain ⟨SA, Sn, Sc, SB, Sm, Sd⟩ := S
 unfold SubV.val FH.val tv at *
 dsimp only at *
 clear hs hv hof hS hgs
 rcases (show k = 1 ∨ k = 2 ∨ k = 3 ∨ k = 4 ∨ k = 5 ∨ k = 6 by omega) with rfl | rfl | rfl | rfl | rfl | rfl
 ·have HR := Lib.hid (show meanK (ents lo) (ents lb) 1 s v of = (!of.contains false) from rfl)
  rw [HR.out]
  obtain ⟨q, hq⟩ : ∃ q, (!of.contains false) = q := ⟨_, rfl⟩
  rw [hq] at H1 ⊢
  clear hq HR
  go_enter Tryz.func128, Tryz.ntmps128
  go_wp2_with fail
  generalize w.alloc (.cells #[.int .i64 1, .slice B m d, .string ⟨s.toArray⟩, .string ⟨v.toArray⟩] 26) = W1 at HKB HB1 HGS1 ⊢
  obtain ⟨g, hg⟩ : ∃ g, w.heap.size = g := ⟨_, rfl⟩
  rw [hg] at HB1 ⊢
  clear hg
  refine wp_region_held_drew (S := (fun X => Keeps [] W1 X)) (by kernel_rfl) ((Keeps.refl [] W1).drew) ?_
  intro HS
  refine wpAnyH_take (i := 1) (v := .pointer (some ⟨g, 0, none⟩)) rfl (by kernel_rfl) (by kernel_rfl) (by kernel_rfl) (fun _ _ _ h => h) (Or.inl ⟨by kernel_rfl, ?_⟩) HS ?_
  ·intro w5 hw5
   go_simp
  simp only [Act.put, aL]
  refine wpAnyH_take (i := 2) (v := .int .i64 1) rfl (by kernel_rfl) (by kernel_rfl) (by kernel_rfl) (fun _ _ _ h => h) (Or.inl ⟨by kernel_rfl, ?_⟩) HS ?_
  ·intro w5 hw5
   obtain ⟨⟨d0, d1, d2, d3⟩, _⟩ := four_facts8 (blk_keep HB1.out hw5 (by simp))
   go_simp
  simp only [Act.put, aL]
  refine wpAnyH_take (i := 4) (v := .agg #[.slice SA Sn Sc, .slice SB Sm Sd]) rfl (by kernel_rfl) (by kernel_rfl) (by kernel_rfl) (fun _ _ _ h => h) (Or.inl ⟨by kernel_rfl, ?_⟩) HS ?_
  ·intro w5 hw5
   obtain ⟨⟨d0, d1⟩, _⟩ := blk2 (blk_keep HGS1.out hw5 (by simp))
   go_simp
  simp only [Act.put, aL]
  refine wpAnyH_take (i := 5) (v := .agg #[.int .i64 1, .slice B m d, .string ⟨s.toArray⟩, .string ⟨v.toArray⟩]) rfl (by kernel_rfl) (by kernel_rfl) (by kernel_rfl) (fun _ _ _ h => h) (Or.inl ⟨by kernel_rfl, ?_⟩) HS ?_
  ·intro w5 hw5
   obtain ⟨⟨d0, d1, d2, d3⟩, _⟩ := four_facts8 (blk_keep HB1.out hw5 (by simp))
   go_simp
  simp only [Act.put, aL]
  refine wpAnyH_take (i := 6) (v := .slice A n c) rfl (by kernel_rfl) (by kernel_rfl) (by kernel_rfl) (fun _ _ _ h => h) (Or.inl ⟨by kernel_rfl, ?_⟩) HS ?_
  ·intro w5 hw5
   go_simp
  simp only [Act.put, aL]
  refine wpAnyH_ready (rs := [0]) (by kernel_rfl) (by simp) ?_
  refine AllReadyH.cons rfl (fun K hK => ?_) AllReadyH.nil
  go_simp
  refine (HM.out _).mono ?_
  rintro e w2 ⟨rfl, hk2⟩
  have HK2 := Lib.hid (((Keeps.refl [] W1).drew).trans' hk2)
  clear hk2
  refine hK.out _ _ HK2.out (fun HS => ?_)
  clear hK K
  try simp only [Act.put, aL]
  refine wpAnyH_take (i := 3) (v := .func (.func 193) #[] #[]) rfl (by kernel_rfl) (by kernel_rfl) (by kernel_rfl) (fun _ _ _ h => h) (Or.inl ⟨by kernel_rfl, ?_⟩) HS ?_
  ·intro w5 hw5
   go_simp
   rfl
  simp only [Act.put, aL]
  refine wpAnyH_ready (rs := [7]) (by kernel_rfl) (by simp) ?_
  refine AllReadyH.cons rfl (fun K hK => ?_) AllReadyH.nil
  go_simp
  refine (H1.out _ (HKB.out.trans' HK2.out)).mono ?_
  rintro e w3 ⟨rfl, hk3'⟩
  have HK3 := Lib.hid (HK2.out.trans' hk3')
  clear hk3'
  refine hK.out _ _ HK3.out (fun HS => ?_)
  clear hK K
  try simp only [Act.put, aL]
  refine wpAnyH_take (i := 8) (v := .bool q) rfl (by kernel_rfl) (by kernel_rfl) (by kernel_rfl) (fun _ _ _ h => h) (Or.inl ⟨by kernel_rfl, ?_⟩) HS ?_
  ·intro w5 hw5
   go_simp
  simp only [Act.put, aL]
  refine wpAnyH_done (by kernel_rfl) ?_ _
  go_wp2_with fail
  go_ret
  exact ⟨rfl, HKB.out.trans' HK3.out⟩
 ·have HR := Lib.hid (show meanK (ents lo) (ents lb) 2 s v of = (of.contains true) from rfl)
  rw [HR.out]
  obtain ⟨q, hq⟩ : ∃ q, (of.contains true) = q := ⟨_, rfl⟩
  rw [hq] at H2 ⊢
  clear hq HR
  go_enter Tryz.func128, Tryz.ntmps128
  go_wp2_with fail
  generalize w.alloc (.cells #[.int .i64 2, .slice B m d, .string ⟨s.toArray⟩, .string ⟨v.toArray⟩] 26) = W1 at HKB HB1 HGS1 ⊢
  obtain ⟨g, hg⟩ : ∃ g, w.heap.size = g := ⟨_, rfl⟩
  rw [hg] at HB1 ⊢
  clear hg
  refine wp_region_held_drew (S := (fun X => Keeps [] W1 X)) (by kernel_rfl) ((Keeps.refl [] W1).drew) ?_
  intro HS
  refine wpAnyH_take (i := 1) (v := .pointer (some ⟨g, 0, none⟩)) rfl (by kernel_rfl) (by kernel_rfl) (by kernel_rfl) (fun _ _ _ h => h) (Or.inl ⟨by kernel_rfl, ?_⟩) HS ?_
  ·intro w5 hw5
   go_simp
  simp only [Act.put, aL]
  refine wpAnyH_take (i := 2) (v := .int .i64 2) rfl (by kernel_rfl) (by kernel_rfl) (by kernel_rfl) (fun _ _ _ h => h) (Or.inl ⟨by kernel_rfl, ?_⟩) HS ?_
  ·intro w5 hw5
   obtain ⟨⟨d0, d1, d2, d3⟩, _⟩ := four_facts8 (blk_keep HB1.out hw5 (by simp))
   go_simp
  simp only [Act.put, aL]
  refine wpAnyH_take (i := 4) (v := .agg #[.slice SA Sn Sc, .slice SB Sm Sd]) rfl (by kernel_rfl) (by kernel_rfl) (by kernel_rfl) (fun _ _ _ h => h) (Or.inl ⟨by kernel_rfl, ?_⟩) HS ?_
  ·intro w5 hw5
   obtain ⟨⟨d0, d1⟩, _⟩ := blk2 (blk_keep HGS1.out hw5 (by simp))
   go_simp
  simp only [Act.put, aL]
  refine wpAnyH_take (i := 5) (v := .agg #[.int .i64 2, .slice B m d, .string ⟨s.toArray⟩, .string ⟨v.toArray⟩]) rfl (by kernel_rfl) (by kernel_rfl) (by kernel_rfl) (fun _ _ _ h => h) (Or.inl ⟨by kernel_rfl, ?_⟩) HS ?_
  ·intro w5 hw5
   obtain ⟨⟨d0, d1, d2, d3⟩, _⟩ := four_facts8 (blk_keep HB1.out hw5 (by simp))
   go_simp
  simp only [Act.put, aL]
  refine wpAnyH_take (i := 6) (v := .slice A n c) rfl (by kernel_rfl) (by kernel_rfl) (by kernel_rfl) (fun _ _ _ h => h) (Or.inl ⟨by kernel_rfl, ?_⟩) HS ?_
  ·intro w5 hw5
   go_simp
  simp only [Act.put, aL]
  refine wpAnyH_ready (rs := [0]) (by kernel_rfl) (by simp) ?_
  refine AllReadyH.cons rfl (fun K hK => ?_) AllReadyH.nil
  go_simp
  refine (HM.out _).mono ?_
  rintro e w2 ⟨rfl, hk2⟩
  have HK2 := Lib.hid (((Keeps.refl [] W1).drew).trans' hk2)
  clear hk2
  refine hK.out _ _ HK2.out (fun HS => ?_)
  clear hK K
  try simp only [Act.put, aL]
  refine wpAnyH_take (i := 3) (v := .func (.func 194) #[] #[]) rfl (by kernel_rfl) (by kernel_rfl) (by kernel_rfl) (fun _ _ _ h => h) (Or.inl ⟨by kernel_rfl, ?_⟩) HS ?_
  ·intro w5 hw5
   go_simp
   rfl
  simp only [Act.put, aL]
  refine wpAnyH_ready (rs := [7]) (by kernel_rfl) (by simp) ?_
  refine AllReadyH.cons rfl (fun K hK => ?_) AllReadyH.nil
  go_simp
  refine (H2.out _ (HKB.out.trans' HK2.out)).mono ?_
  rintro e w3 ⟨rfl, hk3'⟩
  have HK3 := Lib.hid (HK2.out.trans' hk3')
  clear hk3'
  refine hK.out _ _ HK3.out (fun HS => ?_)
  clear hK K
  try simp only [Act.put, aL]
  refine wpAnyH_take (i := 8) (v := .bool q) rfl (by kernel_rfl) (by kernel_rfl) (by kernel_rfl) (fun _ _ _ h => h) (Or.inl ⟨by kernel_rfl, ?_⟩) HS ?_
  ·intro w5 hw5
   go_simp
  simp only [Act.put, aL]
  refine wpAnyH_done (by kernel_rfl) ?_ _
  go_wp2_with fail
  go_ret
  exact ⟨rfl, HKB.out.trans' HK3.out⟩
 ·have HR := Lib.hid (show meanK (ents lo) (ents lb) 3 s v of = (!(of.head?.getD false)) from rfl)
  rw [HR.out]
  obtain ⟨q, hq⟩ : ∃ q, (!(of.head?.getD false)) = q := ⟨_, rfl⟩
  rw [hq] at H3 ⊢
  clear hq HR
  go_enter Tryz.func128, Tryz.ntmps128
  go_wp2_with fail
  generalize w.alloc (.cells #[.int .i64 3, .slice B m d, .string ⟨s.toArray⟩, .string ⟨v.toArray⟩] 26) = W1 at HKB HB1 HGS1 ⊢
  obtain ⟨g, hg⟩ : ∃ g, w.heap.size = g := ⟨_, rfl⟩
  rw [hg] at HB1 ⊢
  clear hg
  refine wp_region_held_drew (S := (fun X => Keeps [] W1 X)) (by kernel_rfl) ((Keeps.refl [] W1).drew) ?_
  intro HS
  refine wpAnyH_take (i := 1) (v := .pointer (some ⟨g, 0, none⟩)) rfl (by kernel_rfl) (by kernel_rfl) (by kernel_rfl) (fun _ _ _ h => h) (Or.inl ⟨by kernel_rfl, ?_⟩) HS ?_
  ·intro w5 hw5
   go_simp
  simp only [Act.put, aL]
  refine wpAnyH_take (i := 2) (v := .int .i64 3) rfl (by kernel_rfl) (by kernel_rfl) (by kernel_rfl) (fun _ _ _ h => h) (Or.inl ⟨by kernel_rfl, ?_⟩) HS ?_
  ·intro w5 hw5
   obtain ⟨⟨d0, d1, d2, d3⟩, _⟩ := four_facts8 (blk_keep HB1.out hw5 (by simp))
   go_simp
  simp only [Act.put, aL]
  refine wpAnyH_take (i := 4) (v := .agg #[.slice SA Sn Sc, .slice SB Sm Sd]) rfl (by kernel_rfl) (by kernel_rfl) (by kernel_rfl) (fun _ _ _ h => h) (Or.inl ⟨by kernel_rfl, ?_⟩) HS ?_
  ·intro w5 hw5
   obtain ⟨⟨d0, d1⟩, _⟩ := blk2 (blk_keep HGS1.out hw5 (by simp))
   go_simp
  simp only [Act.put, aL]
  refine wpAnyH_take (i := 5) (v := .agg #[.int .i64 3, .slice B m d, .string ⟨s.toArray⟩, .string ⟨v.toArray⟩]) rfl (by kernel_rfl) (by kernel_rfl) (by kernel_rfl) (fun _ _ _ h => h) (Or.inl ⟨by kernel_rfl, ?_⟩) HS ?_
  ·intro w5 hw5
   obtain ⟨⟨d0, d1, d2, d3⟩, _⟩ := four_facts8 (blk_keep HB1.out hw5 (by simp))
   go_simp
  simp only [Act.put, aL]
  refine wpAnyH_take (i := 6) (v := .slice A n c) rfl (by kernel_rfl) (by kernel_rfl) (by kernel_rfl) (fun _ _ _ h => h) (Or.inl ⟨by kernel_rfl, ?_⟩) HS ?_
  ·intro w5 hw5
   go_simp
  simp only [Act.put, aL]
  refine wpAnyH_ready (rs := [0]) (by kernel_rfl) (by simp) ?_
  refine AllReadyH.cons rfl (fun K hK => ?_) AllReadyH.nil
  go_simp
  refine (HM.out _).mono ?_
  rintro e w2 ⟨rfl, hk2⟩
  have HK2 := Lib.hid (((Keeps.refl [] W1).drew).trans' hk2)
  clear hk2
  refine hK.out _ _ HK2.out (fun HS => ?_)
  clear hK K
  try simp only [Act.put, aL]
  refine wpAnyH_take (i := 3) (v := .func (.func 195) #[] #[]) rfl (by kernel_rfl) (by kernel_rfl) (by kernel_rfl) (fun _ _ _ h => h) (Or.inl ⟨by kernel_rfl, ?_⟩) HS ?_
  ·intro w5 hw5
   go_simp
   rfl
  simp only [Act.put, aL]
  refine wpAnyH_ready (rs := [7]) (by kernel_rfl) (by simp) ?_
  refine AllReadyH.cons rfl (fun K hK => ?_) AllReadyH.nil
  go_simp
  refine (H3.out _ (HKB.out.trans' HK2.out) (by first | exact hk3 rfl | exact hk3 trivial | exact hk3)).mono ?_
  rintro e w3 ⟨rfl, hk3'⟩
  have HK3 := Lib.hid (HK2.out.trans' hk3')
  clear hk3'
  refine hK.out _ _ HK3.out (fun HS => ?_)
  clear hK K
  try simp only [Act.put, aL]
  refine wpAnyH_take (i := 8) (v := .bool q) rfl (by kernel_rfl) (by kernel_rfl) (by kernel_rfl) (fun _ _ _ h => h) (Or.inl ⟨by kernel_rfl, ?_⟩) HS ?_
  ·intro w5 hw5
   go_simp
  simp only [Act.put, aL]
  refine wpAnyH_done (by kernel_rfl) ?_ _
  go_wp2_with fail
  go_ret
  exact ⟨rfl, HKB.out.trans' HK3.out⟩
 ·have HR := Lib.hid (show meanK (ents lo) (ents lb) 4 s v of = ((valsS (ents lo) (ents lb) s).any (fun x => smallL x == smallL v)) from rfl)
  rw [HR.out]
  obtain ⟨q, hq⟩ : ∃ q, ((valsS (ents lo) (ents lb) s).any (fun x => smallL x == smallL v)) = q := ⟨_, rfl⟩
  rw [hq] at H4 ⊢
  clear hq HR
  go_enter Tryz.func128, Tryz.ntmps128
  go_wp2_with fail
  generalize w.alloc (.cells #[.int .i64 4, .slice B m d, .string ⟨s.toArray⟩, .string ⟨v.toArray⟩] 26) = W1 at HKB HB1 HGS1 ⊢
  obtain ⟨g, hg⟩ : ∃ g, w.heap.size = g := ⟨_, rfl⟩
  rw [hg] at HB1 ⊢
  clear hg
  refine wp_region_held_drew (S := (fun X => Keeps [] W1 X)) (by kernel_rfl) ((Keeps.refl [] W1).drew) ?_
  intro HS
  refine wpAnyH_take (i := 1) (v := .pointer (some ⟨g, 0, none⟩)) rfl (by kernel_rfl) (by kernel_rfl) (by kernel_rfl) (fun _ _ _ h => h) (Or.inl ⟨by kernel_rfl, ?_⟩) HS ?_
  ·intro w5 hw5
   go_simp
  simp only [Act.put, aL]
  refine wpAnyH_take (i := 2) (v := .int .i64 4) rfl (by kernel_rfl) (by kernel_rfl) (by kernel_rfl) (fun _ _ _ h => h) (Or.inl ⟨by kernel_rfl, ?_⟩) HS ?_
  ·intro w5 hw5
   obtain ⟨⟨d0, d1, d2, d3⟩, _⟩ := four_facts8 (blk_keep HB1.out hw5 (by simp))
   go_simp
  simp only [Act.put, aL]
  refine wpAnyH_take (i := 4) (v := .agg #[.slice SA Sn Sc, .slice SB Sm Sd]) rfl (by kernel_rfl) (by kernel_rfl) (by kernel_rfl) (fun _ _ _ h => h) (Or.inl ⟨by kernel_rfl, ?_⟩) HS ?_
  ·intro w5 hw5
   obtain ⟨⟨d0, d1⟩, _⟩ := blk2 (blk_keep HGS1.out hw5 (by simp))
   go_simp
  simp only [Act.put, aL]
  refine wpAnyH_take (i := 5) (v := .agg #[.int .i64 4, .slice B m d, .string ⟨s.toArray⟩, .string ⟨v.toArray⟩]) rfl (by kernel_rfl) (by kernel_rfl) (by kernel_rfl) (fun _ _ _ h => h) (Or.inl ⟨by kernel_rfl, ?_⟩) HS ?_
  ·intro w5 hw5
   obtain ⟨⟨d0, d1, d2, d3⟩, _⟩ := four_facts8 (blk_keep HB1.out hw5 (by simp))
   go_simp
  simp only [Act.put, aL]
  refine wpAnyH_take (i := 6) (v := .slice A n c) rfl (by kernel_rfl) (by kernel_rfl) (by kernel_rfl) (fun _ _ _ h => h) (Or.inl ⟨by kernel_rfl, ?_⟩) HS ?_
  ·intro w5 hw5
   go_simp
  simp only [Act.put, aL]
  refine wpAnyH_ready (rs := [0]) (by kernel_rfl) (by simp) ?_
  refine AllReadyH.cons rfl (fun K hK => ?_) AllReadyH.nil
  go_simp
  refine (HM.out _).mono ?_
  rintro e w2 ⟨rfl, hk2⟩
  have HK2 := Lib.hid (((Keeps.refl [] W1).drew).trans' hk2)
  clear hk2
  refine hK.out _ _ HK2.out (fun HS => ?_)
  clear hK K
  try simp only [Act.put, aL]
  refine wpAnyH_take (i := 3) (v := .func (.func 196) #[] #[]) rfl (by kernel_rfl) (by kernel_rfl) (by kernel_rfl) (fun _ _ _ h => h) (Or.inl ⟨by kernel_rfl, ?_⟩) HS ?_
  ·intro w5 hw5
   go_simp
   rfl
  simp only [Act.put, aL]
  refine wpAnyH_ready (rs := [7]) (by kernel_rfl) (by simp) ?_
  refine AllReadyH.cons rfl (fun K hK => ?_) AllReadyH.nil
  go_simp
  refine (H4.out _ (HKB.out.trans' HK2.out)).mono ?_
  rintro e w3 ⟨rfl, hk3'⟩
  have HK3 := Lib.hid (HK2.out.trans' hk3')
  clear hk3'
  refine hK.out _ _ HK3.out (fun HS => ?_)
  clear hK K
  try simp only [Act.put, aL]
  refine wpAnyH_take (i := 8) (v := .bool q) rfl (by kernel_rfl) (by kernel_rfl) (by kernel_rfl) (fun _ _ _ h => h) (Or.inl ⟨by kernel_rfl, ?_⟩) HS ?_
  ·intro w5 hw5
   go_simp
  simp only [Act.put, aL]
  refine wpAnyH_done (by kernel_rfl) ?_ _
  go_wp2_with fail
  go_ret
  exact ⟨rfl, HKB.out.trans' HK3.out⟩
 ·have HR := Lib.hid (show meanK (ents lo) (ents lb) 5 s v of = ((valsS (ents lo) (ents lb) s).any (fun x => begP (smallL v) (smallL x))) from rfl)
  rw [HR.out]
  obtain ⟨q, hq⟩ : ∃ q, ((valsS (ents lo) (ents lb) s).any (fun x => begP (smallL v) (smallL x))) = q := ⟨_, rfl⟩
  rw [hq] at H5 ⊢
  clear hq HR
  go_enter Tryz.func128, Tryz.ntmps128
  go_wp2_with fail
  generalize w.alloc (.cells #[.int .i64 5, .slice B m d, .string ⟨s.toArray⟩, .string ⟨v.toArray⟩] 26) = W1 at HKB HB1 HGS1 ⊢
  obtain ⟨g, hg⟩ : ∃ g, w.heap.size = g := ⟨_, rfl⟩
  rw [hg] at HB1 ⊢
  clear hg
  refine wp_region_held_drew (S := (fun X => Keeps [] W1 X)) (by kernel_rfl) ((Keeps.refl [] W1).drew) ?_
  intro HS
  refine wpAnyH_take (i := 1) (v := .pointer (some ⟨g, 0, none⟩)) rfl (by kernel_rfl) (by kernel_rfl) (by kernel_rfl) (fun _ _ _ h => h) (Or.inl ⟨by kernel_rfl, ?_⟩) HS ?_
  ·intro w5 hw5
   go_simp
  simp only [Act.put, aL]
  refine wpAnyH_take (i := 2) (v := .int .i64 5) rfl (by kernel_rfl) (by kernel_rfl) (by kernel_rfl) (fun _ _ _ h => h) (Or.inl ⟨by kernel_rfl, ?_⟩) HS ?_
  ·intro w5 hw5
   obtain ⟨⟨d0, d1, d2, d3⟩, _⟩ := four_facts8 (blk_keep HB1.out hw5 (by simp))
   go_simp
  simp only [Act.put, aL]
  refine wpAnyH_take (i := 4) (v := .agg #[.slice SA Sn Sc, .slice SB Sm Sd]) rfl (by kernel_rfl) (by kernel_rfl) (by kernel_rfl) (fun _ _ _ h => h) (Or.inl ⟨by kernel_rfl, ?_⟩) HS ?_
  ·intro w5 hw5
   obtain ⟨⟨d0, d1⟩, _⟩ := blk2 (blk_keep HGS1.out hw5 (by simp))
   go_simp
  simp only [Act.put, aL]
  refine wpAnyH_take (i := 5) (v := .agg #[.int .i64 5, .slice B m d, .string ⟨s.toArray⟩, .string ⟨v.toArray⟩]) rfl (by kernel_rfl) (by kernel_rfl) (by kernel_rfl) (fun _ _ _ h => h) (Or.inl ⟨by kernel_rfl, ?_⟩) HS ?_
  ·intro w5 hw5
   obtain ⟨⟨d0, d1, d2, d3⟩, _⟩ := four_facts8 (blk_keep HB1.out hw5 (by simp))
   go_simp
  simp only [Act.put, aL]
  refine wpAnyH_take (i := 6) (v := .slice A n c) rfl (by kernel_rfl) (by kernel_rfl) (by kernel_rfl) (fun _ _ _ h => h) (Or.inl ⟨by kernel_rfl, ?_⟩) HS ?_
  ·intro w5 hw5
   go_simp
  simp only [Act.put, aL]
  refine wpAnyH_ready (rs := [0]) (by kernel_rfl) (by simp) ?_
  refine AllReadyH.cons rfl (fun K hK => ?_) AllReadyH.nil
  go_simp
  refine (HM.out _).mono ?_
  rintro e w2 ⟨rfl, hk2⟩
  have HK2 := Lib.hid (((Keeps.refl [] W1).drew).trans' hk2)
  clear hk2
  refine hK.out _ _ HK2.out (fun HS => ?_)
  clear hK K
  try simp only [Act.put, aL]
  refine wpAnyH_take (i := 3) (v := .func (.func 197) #[] #[]) rfl (by kernel_rfl) (by kernel_rfl) (by kernel_rfl) (fun _ _ _ h => h) (Or.inl ⟨by kernel_rfl, ?_⟩) HS ?_
  ·intro w5 hw5
   go_simp
   rfl
  simp only [Act.put, aL]
  refine wpAnyH_ready (rs := [7]) (by kernel_rfl) (by simp) ?_
  refine AllReadyH.cons rfl (fun K hK => ?_) AllReadyH.nil
  go_simp
  refine (H5.out _ (HKB.out.trans' HK2.out)).mono ?_
  rintro e w3 ⟨rfl, hk3'⟩
  have HK3 := Lib.hid (HK2.out.trans' hk3')
  clear hk3'
  refine hK.out _ _ HK3.out (fun HS => ?_)
  clear hK K
  try simp only [Act.put, aL]
  refine wpAnyH_take (i := 8) (v := .bool q) rfl (by kernel_rfl) (by kernel_rfl) (by kernel_rfl) (fun _ _ _ h => h) (Or.inl ⟨by kernel_rfl, ?_⟩) HS ?_
  ·intro w5 hw5
   go_simp
  simp only [Act.put, aL]
  refine wpAnyH_done (by kernel_rfl) ?_ _
  go_wp2_with fail
  go_ret
  exact ⟨rfl, HKB.out.trans' HK3.out⟩
 ·have HR := Lib.hid (show meanK (ents lo) (ents lb) 6 s v of = (decide (0 < (valsS (ents lo) (ents lb) s).length)) from rfl)
  rw [HR.out]
  obtain ⟨q, hq⟩ : ∃ q, (decide (0 < (valsS (ents lo) (ents lb) s).length)) = q := ⟨_, rfl⟩
  rw [hq] at H6 ⊢
  clear hq HR
  go_enter Tryz.func128, Tryz.ntmps128
  go_wp2_with fail
  generalize w.alloc (.cells #[.int .i64 6, .slice B m d, .string ⟨s.toArray⟩, .string ⟨v.toArray⟩] 26) = W1 at HKB HB1 HGS1 ⊢
  obtain ⟨g, hg⟩ : ∃ g, w.heap.size = g := ⟨_, rfl⟩
  rw [hg] at HB1 ⊢
  clear hg
  refine wp_region_held_drew (S := (fun X => Keeps [] W1 X)) (by kernel_rfl) ((Keeps.refl [] W1).drew) ?_
  intro HS
  refine wpAnyH_take (i := 1) (v := .pointer (some ⟨g, 0, none⟩)) rfl (by kernel_rfl) (by kernel_rfl) (by kernel_rfl) (fun _ _ _ h => h) (Or.inl ⟨by kernel_rfl, ?_⟩) HS ?_
  ·intro w5 hw5
   go_simp
  simp only [Act.put, aL]
  refine wpAnyH_take (i := 2) (v := .int .i64 6) rfl (by kernel_rfl) (by kernel_rfl) (by kernel_rfl) (fun _ _ _ h => h) (Or.inl ⟨by kernel_rfl, ?_⟩) HS ?_
  ·intro w5 hw5
   obtain ⟨⟨d0, d1, d2, d3⟩, _⟩ := four_facts8 (blk_keep HB1.out hw5 (by simp))
   go_simp
  simp only [Act.put, aL]
  refine wpAnyH_take (i := 4) (v := .agg #[.slice SA Sn Sc, .slice SB Sm Sd]) rfl (by kernel_rfl) (by kernel_rfl) (by kernel_rfl) (fun _ _ _ h => h) (Or.inl ⟨by kernel_rfl, ?_⟩) HS ?_
  ·intro w5 hw5
   obtain ⟨⟨d0, d1⟩, _⟩ := blk2 (blk_keep HGS1.out hw5 (by simp))
   go_simp
  simp only [Act.put, aL]
  refine wpAnyH_take (i := 5) (v := .agg #[.int .i64 6, .slice B m d, .string ⟨s.toArray⟩, .string ⟨v.toArray⟩]) rfl (by kernel_rfl) (by kernel_rfl) (by kernel_rfl) (fun _ _ _ h => h) (Or.inl ⟨by kernel_rfl, ?_⟩) HS ?_
  ·intro w5 hw5
   obtain ⟨⟨d0, d1, d2, d3⟩, _⟩ := four_facts8 (blk_keep HB1.out hw5 (by simp))
   go_simp
  simp only [Act.put, aL]
  refine wpAnyH_take (i := 6) (v := .slice A n c) rfl (by kernel_rfl) (by kernel_rfl) (by kernel_rfl) (fun _ _ _ h => h) (Or.inl ⟨by kernel_rfl, ?_⟩) HS ?_
  ·intro w5 hw5
   go_simp
  simp only [Act.put, aL]
  refine wpAnyH_ready (rs := [0]) (by kernel_rfl) (by simp) ?_
  refine AllReadyH.cons rfl (fun K hK => ?_) AllReadyH.nil
  go_simp
  refine (HM.out _).mono ?_
  rintro e w2 ⟨rfl, hk2⟩
  have HK2 := Lib.hid (((Keeps.refl [] W1).drew).trans' hk2)
  clear hk2
  refine hK.out _ _ HK2.out (fun HS => ?_)
  clear hK K
  try simp only [Act.put, aL]
  refine wpAnyH_take (i := 3) (v := .func (.func 198) #[] #[]) rfl (by kernel_rfl) (by kernel_rfl) (by kernel_rfl) (fun _ _ _ h => h) (Or.inl ⟨by kernel_rfl, ?_⟩) HS ?_
  ·intro w5 hw5
   go_simp
   rfl
  simp only [Act.put, aL]
  refine wpAnyH_ready (rs := [7]) (by kernel_rfl) (by simp) ?_
  refine AllReadyH.cons rfl (fun K hK => ?_) AllReadyH.nil
  go_simp
  refine (H6.out _ (HKB.out.trans' HK2.out)).mono ?_
  rintro e w3 ⟨rfl, hk3'⟩
  have HK3 := Lib.hid (HK2.out.trans' hk3')
  clear hk3'
  refine hK.out _ _ HK3.out (fun HS => ?_)
  clear hK K
  try simp only [Act.put, aL]
  refine wpAnyH_take (i := 8) (v := .bool q) rfl (by kernel_rfl) (by kernel_rfl) (by kernel_rfl) (fun _ _ _ h => h) (Or.inl ⟨by kernel_rfl, ?_⟩) HS ?_
  ·intro w5 hw5
   go_simp
  simp only [Act.put, aL]
  refine wpAnyH_done (by kernel_rfl) ?_ _
  go_wp2_with fail
  go_ret
  exact ⟨rfl, HKB.out.trans' HK3.out⟩
end Go.Proofs.YtbfebljahjmjfaaGreatDoor
