import Derived.Test.YtbfebljahjmjfaaGreatDoorQ27
import Derived.Test.YtbfebljahjmjfaaGreatDoorQ18
import Derived.BigQuiet
import Derived.Deep.RegionHeld3
import Derived.Test.YtbfebljahjmjfaaGreatDoorQ20
/- filter: what valueWith makes of a filter; walked. -/
namespace Go.Proofs.YtbfebljahjmjfaaGreatDoor
open Go.RowKit Go.Shelf
set_option linter.unusedVariables false
set_option linter.unusedSimpArgs false
set_option maxRecDepth 100000

/-- The Nums in memory. -/
def NumsAt (w : World) : Prop := w.cell? ⟨1, 1, none⟩ = some (.int .u8 0) ∧ w.cell? ⟨1, 2, none⟩ = some (.int .u8 1) ∧ w.cell? ⟨1, 3, none⟩ = some (.int .u8 2) ∧ w.cell? ⟨1, 4, none⟩ = some (.int .u8 3) ∧ w.cell? ⟨1, 5, none⟩ = some (.int .u8 4) ∧ w.cell? ⟨1, 6, none⟩ = some (.int .u8 7)
theorem NumsAt.keep {w w' : World} (h : NumsAt w) (hk : Keeps [] w w') : NumsAt w' :=
 ⟨(hk.cell (lt_of_cell h.1) (by simp)).trans h.1, (hk.cell (lt_of_cell h.2.1) (by simp)).trans h.2.1, (hk.cell (lt_of_cell h.2.2.1) (by simp)).trans h.2.2.1, (hk.cell (lt_of_cell h.2.2.2.1) (by simp)).trans h.2.2.2.1, (hk.cell (lt_of_cell h.2.2.2.2.1) (by simp)).trans h.2.2.2.2.1, (hk.cell (lt_of_cell h.2.2.2.2.2) (by simp)).trans h.2.2.2.2.2⟩
/-- The value of a filter with those of its Of. -/
def valK (k : Int) (s v : Txt) (of : List BV) : BV :=
 if k = 4 then .mk 2 3 true [] [.mk 0 4 false s [], .mk 0 4 false v []]
 else if k = 5 then .mk 2 4 true [] [.mk 0 4 false s [], .mk 0 16 true [] [.mk 2 0 false v []]]
 else if k = 6 then .mk 2 7 false s []
 else .mk 2 (k - 1).toNat true [] of
/-- How valueWith ends. -/
def VwQ (t : BV) (w : World) (e : Ending) (w' : World) : Prop := ∃ h' : BH, e = .returned h'.val ∧ (∀ (E : List Nat) X, (∀ x ∈ E, x < w.heap.size) → Keeps E w' X → BerAt X t h') ∧ Keeps [] w w'
theorem ber0_is : ber0 = .cells #[.int .u8 0, .int .u8 0, .bool false, .slice none 0 0, .slice none 0 0] 40 := rfl
set_option maxHeartbeats 8000000 in
theorem valuewith_is (h : FH) (C : Option Addr) (j c : Nat) (of : List BV) (w : World) (hl : of.length = j) (hI : ItemsAt w C 0 of) (hn : nodesL of ≤ 900000000) (hm : maxL of ≤ 900000000) (hsl : h.s.length ≤ 900000000) (hk : h.k = 1 ∨ h.k = 2 ∨ h.k = 3 ∨ h.k = 6) (hN : NumsAt w) :
  Calls Tryz.prog 145 #[h.val, .slice C j c] w (VwQ (valK h.k h.s h.v of) w) := by
 obtain ⟨k, B, lb, cb, s, v⟩ := h
 dsimp only at hsl hk ⊢
 have HCL := Lib.hid (fun X (hX : Keeps [] w X) => list_is C j c of X hl (ItemsAt.grow hX C 0 of hI) (by omega) (by omega))
 have HCT := Lib.hid (fun X => text_own s X (by omega))
 have HTG := Lib.hid (fun t h nu X (hnu : nu < 256) (hb : BerAt X t h) (h1 : nodesB t ≤ 1000000000) (h2 : maxB t ≤ 1000000000) => tagged_own t h 2 nu X hb h1 h2 (by decide) hnu)
 have HNV := Lib.hid (fun X (hX : Keeps [] w X) => hN.keep hX)
 have HBD : Hid (nodesB (.mk 0 16 true [] of) ≤ 1000000000 ∧ maxB (.mk 0 16 true [] of) ≤ 1000000000 ∧ nodesB (.mk 0 4 false s []) ≤ 1000000000 ∧ maxB (.mk 0 4 false s []) ≤ 1000000000) := by
  refine ⟨?_, ?_, ?_, ?_⟩
  ·rw [nodesB_mk]; show 1 + nodesL of ≤ _; omega
  ·simp [maxB]; omega
  ·rw [nodesB_mk]; simp [BV.l, nodesL]
  ·simp [maxB, maxL]; omega
 obtain ⟨W0, hW0⟩ : ∃ W0, (w.alloc (.cells #[.int .i64 k, .slice B lb cb, .string ⟨s.toArray⟩, .string ⟨v.toArray⟩] 26)).alloc ber0 = W0 := ⟨_, rfl⟩
 have HK0 : Hid (Keeps [] w W0) := by rw [← hW0]; exact ((Keeps.refl [] w).alloc _).alloc _
 have HZ0 : Hid (W0.heap.size = w.heap.size + 2) := by rw [← hW0]; simp [Hid]
 have hb0 : W0.heap[w.heap.size]? = some (.cells #[.int .i64 k, .slice B lb cb, .string ⟨s.toArray⟩, .string ⟨v.toArray⟩] 26 (0, 0)) := by rw [← hW0]; exact blk_keep (heap_new8 w _) ((Keeps.refl [] _).alloc _) (by simp)
 have hr0 : W0.heap[w.heap.size + 1]? = some ber0 := by
  rw [← hW0]
  have h9 := heap_new8 (w.alloc (.cells #[.int .i64 k, .slice B lb cb, .string ⟨s.toArray⟩, .string ⟨v.toArray⟩] 26)) ber0
  rwa [World.size_alloc] at h9
 have HB0 := Lib.hid hb0
 have HR0 := Lib.hid hr0
 clear hb0 hr0 hl hI hn hm hsl hN
 unfold FH.val tv
 go_enter Tryz.func145, Tryz.ntmps145
 go_wp2_with fail
 refine (HCL.out _ HK0.out).mono ?_
 rintro e w1 ⟨C1, d1, rfl, hb1, hk1⟩
 obtain ⟨W2, hW2⟩ : ∃ W2, w1.alloc (.cells #[.int .u8 0, .int .u8 16, .bool true, .slice none 0 0, .slice C1 j d1] 40) = W2 := ⟨_, rfl⟩
 have hk2 : Keeps [] w1 W2 := by rw [← hW2]; exact (Keeps.refl [] w1).alloc _
 have hv2 : W2.heap[w1.heap.size]? = some (.cells #[.int .u8 0, .int .u8 16, .bool true, .slice none 0 0, .slice C1 j d1] 40 (0, 0)) := by rw [← hW2]; exact heap_new8 w1 _
 have HB2 := Lib.hid (blk_keep (blk_keep HB0.out hk1 (by simp)) hk2 (by simp))
 have HR2 := Lib.hid (blk_keep (blk_keep HR0.out hk1 (by simp)) hk2 (by simp))
 have HK2 := Lib.hid (HK0.out.trans' (hk1.trans' hk2))
 have HG5 : Hid (w.heap.size + 2 ≤ w1.heap.size) := by show _ ≤ _; rw [← HZ0.out]; exact hk1.size
 have HV2 := Lib.hid hv2
 have HT2 : Hid (∀ (E : List Nat) X, (∀ x ∈ E, x < w.heap.size + 2) → Keeps E W2 X → BerAt X (.mk 0 16 true [] of) ⟨0, 16, true, none, 0, 0, C1, j, d1⟩) := fun E X hE hX => hb1 E X (fun x hx => by rw [HZ0.out]; exact hE x hx) ((hk2.mono (cs := E) (by simp)).trans hX (fun x hx => .inl hx))
 obtain ⟨⟨z0, z1, z2, z3⟩, _⟩ := four_facts8 HB2.out
 clear hb1 hk1 hk2 hv2
 have HNG : Hid (1 < w.heap.size) := lt_of_cell (HNV.out w (Keeps.refl _ _)).1
 rcases hk with rfl | rfl | rfl | rfl
 ·go_wp2_with fail
  obtain ⟨R, hR⟩ : ∃ R, w.heap.size + 1 = R := ⟨_, rfl⟩
  obtain ⟨gf, hgf⟩ : ∃ gf, w.heap.size = gf := ⟨_, rfl⟩
  have HRR := Lib.hid hR
  have HGF := Lib.hid hgf
  have HBx := HB2
  have HRx := HR2
  rw [hR] at HRx ⊢
  rw [hgf] at HBx ⊢
  have hne1 : gf ≠ R := by omega
  have hne2 : w1.heap.size ≠ R := by have := HG5.out; omega
  clear hR hgf z0 z1 z2 z3
  refine wp_region_held_drew (S := (fun X => Keeps [R] W2 X)) (by kernel_rfl) ((Keeps.refl [R] W2).drew) ?_
  intro HS
  refine wpAnyH_take (i := 0) (v := .agg #[.int .u8 0, .int .u8 16, .bool true, .slice none 0 0, .slice C1 j d1]) rfl (by kernel_rfl) (by kernel_rfl) (by kernel_rfl) (fun _ _ _ h => h) (Or.inl ⟨by kernel_rfl, ?_⟩) HS ?_
  ·intro w5 hw5
   obtain ⟨⟨d0, d1, d2, d3, d4⟩, _⟩ := five_facts (blk_keep HV2.out hw5 (by simpa using hne2))
   go_simp
  simp only [Act.put, aL]
  refine wpAnyH_take (i := 1) (v := .pointer (some ⟨gf, 0, none⟩)) rfl (by kernel_rfl) (by kernel_rfl) (by kernel_rfl) (fun _ _ _ h => h) (Or.inl ⟨by kernel_rfl, ?_⟩) HS ?_
  ·intro w5 hw5
   skip
   go_simp
  simp only [Act.put, aL]
  refine wpAnyH_take (i := 2) (v := .int .i64 1) rfl (by kernel_rfl) (by kernel_rfl) (by kernel_rfl) (fun _ _ _ h => h) (Or.inl ⟨by kernel_rfl, ?_⟩) HS ?_
  ·intro w5 hw5
   obtain ⟨⟨d0, d1, d2, d3⟩, _⟩ := four_facts8 (blk_keep HBx.out hw5 (by simpa using hne1))
   go_simp
  simp only [Act.put, aL]
  refine wpAnyH_take (i := 3) (v := .pointer (some ⟨1, 1, none⟩)) rfl (by kernel_rfl) (by kernel_rfl) (by kernel_rfl) (fun _ _ _ h => h) (Or.inl ⟨by kernel_rfl, ?_⟩) HS ?_
  ·intro w5 hw5
   skip
   go_simp
  simp only [Act.put, aL]
  refine wpAnyH_take (i := 4) (v := .int .u8 0) rfl (by kernel_rfl) (by kernel_rfl) (by kernel_rfl) (fun _ _ _ h => h) (Or.inl ⟨by kernel_rfl, ?_⟩) HS ?_
  ·intro w5 hw5
   have hnm := (HNV.out _ HK2.out).1
   have d0 := (hw5.cell (lt_of_cell hnm) (by simp; have := HNG.out; have := HRR.out; omega)).trans hnm
   go_simp
  simp only [Act.put, aL]
  refine wpAnyH_ready (rs := [5]) (by kernel_rfl) (by simp) ?_
  refine AllReadyH.cons rfl (fun K hK => ?_) AllReadyH.nil
  go_simp
  refine (HTG.out (.mk 0 16 true [] of) (⟨0, 16, true, none, 0, 0, C1, j, d1⟩ : BH) 0 _ (by decide) (HT2.out [] _ (by simp) ((Keeps.refl [] W2).drew)) HBD.out.1 HBD.out.2.1).mono ?_
  rintro e w9 ⟨h', rfl, hb9, hk9⟩
  have HK9 : Hid (Keeps [] W2 w9) := ((Keeps.refl [] W2).drew).trans' hk9
  have HB9 := Lib.hid hb9
  have HR9 := Lib.hid (blk_keep HRx.out HK9.out (by simp))
  clear hb9 hk9
  refine hK.out _ _ (HK9.out.mono (by simp)) (fun HS => ?_)
  clear hK K
  try simp only [Act.put, aL]
  rw [ber0_is] at HR9
  obtain ⟨⟨y0, y1, y2, y3, y4⟩, ⟨f0, f1, f2, f3, f4⟩⟩ := five_facts HR9.out
  obtain ⟨c9, n9, k9, A9, la9, ca9, B9, lb9, cb9⟩ := h'
  unfold BH.val
  dsimp only
  refine wpAnyH_ready (rs := [6]) (by kernel_rfl) (by simp) ?_
  refine AllReadyH.cons rfl (fun K hK => ?_) AllReadyH.nil
  go_simp
  refine hK.out _ _ (five_keep (HK9.out.mono (by simp)) (.inl (by simp))) (fun HS => ?_)
  clear hK K
  try simp only [Act.put, aL]
  refine wpAnyH_done (by kernel_rfl) ?_ _
  go_wp2_with fail
  have hrow := five_set (v0 := .int .u8 (c9 : Int)) (v1 := .int .u8 (n9 : Int)) (v2 := .bool k9) (v3 := .slice A9 la9 ca9) (v4 := .slice B9 lb9 cb9) HR9.out
  have hkf := five_keep (v0 := .int .u8 (c9 : Int)) (v1 := .int .u8 (n9 : Int)) (v2 := .bool k9) (v3 := .slice A9 la9 ca9) (v4 := .slice B9 lb9 cb9) (HK2.out.trans' HK9.out) (g := R) (.inr (by have := HRR.out; omega))
  have hks := five_keep (bs := [R]) (v0 := .int .u8 (c9 : Int)) (v1 := .int .u8 (n9 : Int)) (v2 := .bool k9) (v3 := .slice A9 la9 ca9) (v4 := .slice B9 lb9 cb9) (Keeps.refl [R] w9) (g := R) (.inl (by simp))
  refine ret_ber rfl rfl rfl hrow rfl ⟨⟨c9, n9, k9, A9, la9, ca9, B9, lb9, cb9⟩, rfl, fun E X hE hk => HB9.out (R :: E) X (fun x hx => ?_) ((hks.mono (by simp)).trans hk (fun x hx => .inl (List.mem_cons_of_mem _ hx))), hkf⟩
  have hz9 : w.heap.size + 2 ≤ (W2.drew).heap.size := by have := HG5.out; have := lt_of_heap HV2.out; show _ ≤ W2.heap.size; omega
  rcases List.mem_cons.1 hx with hx | hx
  ·have := HRR.out; omega
  ·have := hE x hx; omega
 ·go_wp2_with fail
  obtain ⟨R, hR⟩ : ∃ R, w.heap.size + 1 = R := ⟨_, rfl⟩
  obtain ⟨gf, hgf⟩ : ∃ gf, w.heap.size = gf := ⟨_, rfl⟩
  have HRR := Lib.hid hR
  have HGF := Lib.hid hgf
  have HBx := HB2
  have HRx := HR2
  rw [hR] at HRx ⊢
  rw [hgf] at HBx ⊢
  have hne1 : gf ≠ R := by omega
  have hne2 : w1.heap.size ≠ R := by have := HG5.out; omega
  clear hR hgf z0 z1 z2 z3
  refine wp_region_held_drew (S := (fun X => Keeps [R] W2 X)) (by kernel_rfl) ((Keeps.refl [R] W2).drew) ?_
  intro HS
  refine wpAnyH_take (i := 0) (v := .agg #[.int .u8 0, .int .u8 16, .bool true, .slice none 0 0, .slice C1 j d1]) rfl (by kernel_rfl) (by kernel_rfl) (by kernel_rfl) (fun _ _ _ h => h) (Or.inl ⟨by kernel_rfl, ?_⟩) HS ?_
  ·intro w5 hw5
   obtain ⟨⟨d0, d1, d2, d3, d4⟩, _⟩ := five_facts (blk_keep HV2.out hw5 (by simpa using hne2))
   go_simp
  simp only [Act.put, aL]
  refine wpAnyH_take (i := 1) (v := .pointer (some ⟨gf, 0, none⟩)) rfl (by kernel_rfl) (by kernel_rfl) (by kernel_rfl) (fun _ _ _ h => h) (Or.inl ⟨by kernel_rfl, ?_⟩) HS ?_
  ·intro w5 hw5
   skip
   go_simp
  simp only [Act.put, aL]
  refine wpAnyH_take (i := 2) (v := .int .i64 2) rfl (by kernel_rfl) (by kernel_rfl) (by kernel_rfl) (fun _ _ _ h => h) (Or.inl ⟨by kernel_rfl, ?_⟩) HS ?_
  ·intro w5 hw5
   obtain ⟨⟨d0, d1, d2, d3⟩, _⟩ := four_facts8 (blk_keep HBx.out hw5 (by simpa using hne1))
   go_simp
  simp only [Act.put, aL]
  refine wpAnyH_take (i := 3) (v := .pointer (some ⟨1, 2, none⟩)) rfl (by kernel_rfl) (by kernel_rfl) (by kernel_rfl) (fun _ _ _ h => h) (Or.inl ⟨by kernel_rfl, ?_⟩) HS ?_
  ·intro w5 hw5
   skip
   go_simp
  simp only [Act.put, aL]
  refine wpAnyH_take (i := 4) (v := .int .u8 1) rfl (by kernel_rfl) (by kernel_rfl) (by kernel_rfl) (fun _ _ _ h => h) (Or.inl ⟨by kernel_rfl, ?_⟩) HS ?_
  ·intro w5 hw5
   have hnm := (HNV.out _ HK2.out).2.1
   have d0 := (hw5.cell (lt_of_cell hnm) (by simp; have := HNG.out; have := HRR.out; omega)).trans hnm
   go_simp
  simp only [Act.put, aL]
  refine wpAnyH_ready (rs := [5]) (by kernel_rfl) (by simp) ?_
  refine AllReadyH.cons rfl (fun K hK => ?_) AllReadyH.nil
  go_simp
  refine (HTG.out (.mk 0 16 true [] of) (⟨0, 16, true, none, 0, 0, C1, j, d1⟩ : BH) 1 _ (by decide) (HT2.out [] _ (by simp) ((Keeps.refl [] W2).drew)) HBD.out.1 HBD.out.2.1).mono ?_
  rintro e w9 ⟨h', rfl, hb9, hk9⟩
  have HK9 : Hid (Keeps [] W2 w9) := ((Keeps.refl [] W2).drew).trans' hk9
  have HB9 := Lib.hid hb9
  have HR9 := Lib.hid (blk_keep HRx.out HK9.out (by simp))
  clear hb9 hk9
  refine hK.out _ _ (HK9.out.mono (by simp)) (fun HS => ?_)
  clear hK K
  try simp only [Act.put, aL]
  rw [ber0_is] at HR9
  obtain ⟨⟨y0, y1, y2, y3, y4⟩, ⟨f0, f1, f2, f3, f4⟩⟩ := five_facts HR9.out
  obtain ⟨c9, n9, k9, A9, la9, ca9, B9, lb9, cb9⟩ := h'
  unfold BH.val
  dsimp only
  refine wpAnyH_ready (rs := [6]) (by kernel_rfl) (by simp) ?_
  refine AllReadyH.cons rfl (fun K hK => ?_) AllReadyH.nil
  go_simp
  refine hK.out _ _ (five_keep (HK9.out.mono (by simp)) (.inl (by simp))) (fun HS => ?_)
  clear hK K
  try simp only [Act.put, aL]
  refine wpAnyH_done (by kernel_rfl) ?_ _
  go_wp2_with fail
  have hrow := five_set (v0 := .int .u8 (c9 : Int)) (v1 := .int .u8 (n9 : Int)) (v2 := .bool k9) (v3 := .slice A9 la9 ca9) (v4 := .slice B9 lb9 cb9) HR9.out
  have hkf := five_keep (v0 := .int .u8 (c9 : Int)) (v1 := .int .u8 (n9 : Int)) (v2 := .bool k9) (v3 := .slice A9 la9 ca9) (v4 := .slice B9 lb9 cb9) (HK2.out.trans' HK9.out) (g := R) (.inr (by have := HRR.out; omega))
  have hks := five_keep (bs := [R]) (v0 := .int .u8 (c9 : Int)) (v1 := .int .u8 (n9 : Int)) (v2 := .bool k9) (v3 := .slice A9 la9 ca9) (v4 := .slice B9 lb9 cb9) (Keeps.refl [R] w9) (g := R) (.inl (by simp))
  refine ret_ber rfl rfl rfl hrow rfl ⟨⟨c9, n9, k9, A9, la9, ca9, B9, lb9, cb9⟩, rfl, fun E X hE hk => HB9.out (R :: E) X (fun x hx => ?_) ((hks.mono (by simp)).trans hk (fun x hx => .inl (List.mem_cons_of_mem _ hx))), hkf⟩
  have hz9 : w.heap.size + 2 ≤ (W2.drew).heap.size := by have := HG5.out; have := lt_of_heap HV2.out; show _ ≤ W2.heap.size; omega
  rcases List.mem_cons.1 hx with hx | hx
  ·have := HRR.out; omega
  ·have := hE x hx; omega
 ·go_wp2_with fail
  obtain ⟨R, hR⟩ : ∃ R, w.heap.size + 1 = R := ⟨_, rfl⟩
  obtain ⟨gf, hgf⟩ : ∃ gf, w.heap.size = gf := ⟨_, rfl⟩
  have HRR := Lib.hid hR
  have HGF := Lib.hid hgf
  have HBx := HB2
  have HRx := HR2
  rw [hR] at HRx ⊢
  rw [hgf] at HBx ⊢
  have hne1 : gf ≠ R := by omega
  have hne2 : w1.heap.size ≠ R := by have := HG5.out; omega
  clear hR hgf z0 z1 z2 z3
  refine wp_region_held_drew (S := (fun X => Keeps [R] W2 X)) (by kernel_rfl) ((Keeps.refl [R] W2).drew) ?_
  intro HS
  refine wpAnyH_take (i := 0) (v := .agg #[.int .u8 0, .int .u8 16, .bool true, .slice none 0 0, .slice C1 j d1]) rfl (by kernel_rfl) (by kernel_rfl) (by kernel_rfl) (fun _ _ _ h => h) (Or.inl ⟨by kernel_rfl, ?_⟩) HS ?_
  ·intro w5 hw5
   obtain ⟨⟨d0, d1, d2, d3, d4⟩, _⟩ := five_facts (blk_keep HV2.out hw5 (by simpa using hne2))
   go_simp
  simp only [Act.put, aL]
  refine wpAnyH_take (i := 1) (v := .pointer (some ⟨gf, 0, none⟩)) rfl (by kernel_rfl) (by kernel_rfl) (by kernel_rfl) (fun _ _ _ h => h) (Or.inl ⟨by kernel_rfl, ?_⟩) HS ?_
  ·intro w5 hw5
   skip
   go_simp
  simp only [Act.put, aL]
  refine wpAnyH_take (i := 2) (v := .int .i64 3) rfl (by kernel_rfl) (by kernel_rfl) (by kernel_rfl) (fun _ _ _ h => h) (Or.inl ⟨by kernel_rfl, ?_⟩) HS ?_
  ·intro w5 hw5
   obtain ⟨⟨d0, d1, d2, d3⟩, _⟩ := four_facts8 (blk_keep HBx.out hw5 (by simpa using hne1))
   go_simp
  simp only [Act.put, aL]
  refine wpAnyH_take (i := 3) (v := .pointer (some ⟨1, 3, none⟩)) rfl (by kernel_rfl) (by kernel_rfl) (by kernel_rfl) (fun _ _ _ h => h) (Or.inl ⟨by kernel_rfl, ?_⟩) HS ?_
  ·intro w5 hw5
   skip
   go_simp
  simp only [Act.put, aL]
  refine wpAnyH_take (i := 4) (v := .int .u8 2) rfl (by kernel_rfl) (by kernel_rfl) (by kernel_rfl) (fun _ _ _ h => h) (Or.inl ⟨by kernel_rfl, ?_⟩) HS ?_
  ·intro w5 hw5
   have hnm := (HNV.out _ HK2.out).2.2.1
   have d0 := (hw5.cell (lt_of_cell hnm) (by simp; have := HNG.out; have := HRR.out; omega)).trans hnm
   go_simp
  simp only [Act.put, aL]
  refine wpAnyH_ready (rs := [5]) (by kernel_rfl) (by simp) ?_
  refine AllReadyH.cons rfl (fun K hK => ?_) AllReadyH.nil
  go_simp
  refine (HTG.out (.mk 0 16 true [] of) (⟨0, 16, true, none, 0, 0, C1, j, d1⟩ : BH) 2 _ (by decide) (HT2.out [] _ (by simp) ((Keeps.refl [] W2).drew)) HBD.out.1 HBD.out.2.1).mono ?_
  rintro e w9 ⟨h', rfl, hb9, hk9⟩
  have HK9 : Hid (Keeps [] W2 w9) := ((Keeps.refl [] W2).drew).trans' hk9
  have HB9 := Lib.hid hb9
  have HR9 := Lib.hid (blk_keep HRx.out HK9.out (by simp))
  clear hb9 hk9
  refine hK.out _ _ (HK9.out.mono (by simp)) (fun HS => ?_)
  clear hK K
  try simp only [Act.put, aL]
  rw [ber0_is] at HR9
  obtain ⟨⟨y0, y1, y2, y3, y4⟩, ⟨f0, f1, f2, f3, f4⟩⟩ := five_facts HR9.out
  obtain ⟨c9, n9, k9, A9, la9, ca9, B9, lb9, cb9⟩ := h'
  unfold BH.val
  dsimp only
  refine wpAnyH_ready (rs := [6]) (by kernel_rfl) (by simp) ?_
  refine AllReadyH.cons rfl (fun K hK => ?_) AllReadyH.nil
  go_simp
  refine hK.out _ _ (five_keep (HK9.out.mono (by simp)) (.inl (by simp))) (fun HS => ?_)
  clear hK K
  try simp only [Act.put, aL]
  refine wpAnyH_done (by kernel_rfl) ?_ _
  go_wp2_with fail
  have hrow := five_set (v0 := .int .u8 (c9 : Int)) (v1 := .int .u8 (n9 : Int)) (v2 := .bool k9) (v3 := .slice A9 la9 ca9) (v4 := .slice B9 lb9 cb9) HR9.out
  have hkf := five_keep (v0 := .int .u8 (c9 : Int)) (v1 := .int .u8 (n9 : Int)) (v2 := .bool k9) (v3 := .slice A9 la9 ca9) (v4 := .slice B9 lb9 cb9) (HK2.out.trans' HK9.out) (g := R) (.inr (by have := HRR.out; omega))
  have hks := five_keep (bs := [R]) (v0 := .int .u8 (c9 : Int)) (v1 := .int .u8 (n9 : Int)) (v2 := .bool k9) (v3 := .slice A9 la9 ca9) (v4 := .slice B9 lb9 cb9) (Keeps.refl [R] w9) (g := R) (.inl (by simp))
  refine ret_ber rfl rfl rfl hrow rfl ⟨⟨c9, n9, k9, A9, la9, ca9, B9, lb9, cb9⟩, rfl, fun E X hE hk => HB9.out (R :: E) X (fun x hx => ?_) ((hks.mono (by simp)).trans hk (fun x hx => .inl (List.mem_cons_of_mem _ hx))), hkf⟩
  have hz9 : w.heap.size + 2 ≤ (W2.drew).heap.size := by have := HG5.out; have := lt_of_heap HV2.out; show _ ≤ W2.heap.size; omega
  rcases List.mem_cons.1 hx with hx | hx
  ·have := HRR.out; omega
  ·have := hE x hx; omega
 ·go_wp2_with fail
  refine (HCT.out _).mono ?_
  rintro e w3 ⟨h3, rfl, hb3, hk3⟩
  obtain ⟨c3, n3, k3, A3, la3, ca3, B3, lb3, cb3⟩ := h3
  have HV3 := Lib.hid (blk_keep HV2.out hk3 (by simp))
  have HBb := Lib.hid (blk_keep HB2.out hk3 (by simp))
  have HRb := Lib.hid (blk_keep HR2.out hk3 (by simp))
  have HKb := Lib.hid (HK2.out.trans' hk3)
  have HTb := Lib.hid hb3
  clear z0 z1 z2 z3 hb3 hk3
  obtain ⟨⟨y0, y1, y2, y3, y4⟩, ⟨f0, f1, f2, f3, f4⟩⟩ := five_facts HV3.out
  obtain ⟨⟨z0, z1, z2, z3⟩, _⟩ := four_facts8 HBb.out
  unfold BH.val
  dsimp only
  obtain ⟨W4, hW4⟩ : ∃ W4, (((((w3.setCell ⟨w1.heap.size, 0, none⟩ (.int .u8 (c3 : Int))).setCell ⟨w1.heap.size, 1, none⟩ (.int .u8 (n3 : Int))).setCell ⟨w1.heap.size, 2, none⟩ (.bool k3)).setCell ⟨w1.heap.size, 3, none⟩ (.slice A3 la3 ca3)).setCell ⟨w1.heap.size, 4, none⟩ (.slice B3 lb3 cb3)) = W4 := ⟨_, rfl⟩
  have hk4 : Keeps [w1.heap.size] w3 W4 := by rw [← hW4]; exact five_keep (Keeps.refl [w1.heap.size] w3) (.inl (by simp))
  have hv4 : W4.heap[w1.heap.size]? = some (.cells #[.int .u8 (c3 : Int), .int .u8 (n3 : Int), .bool k3, .slice A3 la3 ca3, .slice B3 lb3 cb3] 40 (0, 0)) := by rw [← hW4]; exact five_set HV3.out
  have HV4 := Lib.hid hv4
  have HB4 := Lib.hid (blk_keep HBb.out hk4 (by simp; have := HG5.out; omega))
  have HR4 := Lib.hid (blk_keep HRb.out hk4 (by simp; have := HG5.out; omega))
  have HK4 : Hid (Keeps [] w W4) := HKb.out.trans hk4 (fun x hx => .inr (by simp at hx; have := HG5.out; omega))
  have HT4 : Hid (∀ (E : List Nat) X, (∀ x ∈ E, x < w.heap.size + 2) → Keeps E W4 X → BerAt X (.mk 0 4 false s []) ⟨c3, n3, k3, A3, la3, ca3, B3, lb3, cb3⟩) := fun E X hE hX => HTb.out (w1.heap.size :: E) X (fun x hx => by
   have h8 := lt_of_heap HV2.out
   have h9 := HG5.out
   rcases List.mem_cons.1 hx with hx | hx
   ·omega
   ·have := hE x hx; omega) ((hk4.mono (by simp)).trans hX (fun x hx => .inl (List.mem_cons_of_mem _ hx)))
  clear hk4 hv4
  go_wp2_with fail
  obtain ⟨R, hR⟩ : ∃ R, w.heap.size + 1 = R := ⟨_, rfl⟩
  obtain ⟨gf, hgf⟩ : ∃ gf, w.heap.size = gf := ⟨_, rfl⟩
  have HRR := Lib.hid hR
  have HGF := Lib.hid hgf
  have HBx := HB4
  have HRx := HR4
  rw [hR] at HRx ⊢
  rw [hgf] at HBx ⊢
  have hne1 : gf ≠ R := by omega
  have hne2 : w1.heap.size ≠ R := by have := HG5.out; omega
  clear hR hgf z0 z1 z2 z3
  refine wp_region_held_drew (S := (fun X => Keeps [R] W4 X)) (by kernel_rfl) ((Keeps.refl [R] W4).drew) ?_
  intro HS
  refine wpAnyH_take (i := 0) (v := .agg #[.int .u8 (c3 : Int), .int .u8 (n3 : Int), .bool k3, .slice A3 la3 ca3, .slice B3 lb3 cb3]) rfl (by kernel_rfl) (by kernel_rfl) (by kernel_rfl) (fun _ _ _ h => h) (Or.inl ⟨by kernel_rfl, ?_⟩) HS ?_
  ·intro w5 hw5
   obtain ⟨⟨d0, d1, d2, d3, d4⟩, _⟩ := five_facts (blk_keep HV4.out hw5 (by simpa using hne2))
   go_simp
  simp only [Act.put, aL]
  refine wpAnyH_take (i := 1) (v := .pointer (some ⟨gf, 0, none⟩)) rfl (by kernel_rfl) (by kernel_rfl) (by kernel_rfl) (fun _ _ _ h => h) (Or.inl ⟨by kernel_rfl, ?_⟩) HS ?_
  ·intro w5 hw5
   skip
   go_simp
  simp only [Act.put, aL]
  refine wpAnyH_take (i := 2) (v := .int .i64 6) rfl (by kernel_rfl) (by kernel_rfl) (by kernel_rfl) (fun _ _ _ h => h) (Or.inl ⟨by kernel_rfl, ?_⟩) HS ?_
  ·intro w5 hw5
   obtain ⟨⟨d0, d1, d2, d3⟩, _⟩ := four_facts8 (blk_keep HBx.out hw5 (by simpa using hne1))
   go_simp
  simp only [Act.put, aL]
  refine wpAnyH_take (i := 3) (v := .pointer (some ⟨1, 6, none⟩)) rfl (by kernel_rfl) (by kernel_rfl) (by kernel_rfl) (fun _ _ _ h => h) (Or.inl ⟨by kernel_rfl, ?_⟩) HS ?_
  ·intro w5 hw5
   skip
   go_simp
  simp only [Act.put, aL]
  refine wpAnyH_take (i := 4) (v := .int .u8 7) rfl (by kernel_rfl) (by kernel_rfl) (by kernel_rfl) (fun _ _ _ h => h) (Or.inl ⟨by kernel_rfl, ?_⟩) HS ?_
  ·intro w5 hw5
   have hnm := (HNV.out _ HK4.out).2.2.2.2.2
   have d0 := (hw5.cell (lt_of_cell hnm) (by simp; have := HNG.out; have := HRR.out; omega)).trans hnm
   go_simp
  simp only [Act.put, aL]
  refine wpAnyH_ready (rs := [5]) (by kernel_rfl) (by simp) ?_
  refine AllReadyH.cons rfl (fun K hK => ?_) AllReadyH.nil
  go_simp
  refine (HTG.out (.mk 0 4 false s []) (⟨c3, n3, k3, A3, la3, ca3, B3, lb3, cb3⟩ : BH) 7 _ (by decide) (HT4.out [] _ (by simp) ((Keeps.refl [] W4).drew)) HBD.out.2.2.1 HBD.out.2.2.2).mono ?_
  rintro e w9 ⟨h', rfl, hb9, hk9⟩
  have HK9 : Hid (Keeps [] W4 w9) := ((Keeps.refl [] W4).drew).trans' hk9
  have HB9 := Lib.hid hb9
  have HR9 := Lib.hid (blk_keep HRx.out HK9.out (by simp))
  clear hb9 hk9
  refine hK.out _ _ (HK9.out.mono (by simp)) (fun HS => ?_)
  clear hK K
  try simp only [Act.put, aL]
  rw [ber0_is] at HR9
  obtain ⟨⟨y0, y1, y2, y3, y4⟩, ⟨f0, f1, f2, f3, f4⟩⟩ := five_facts HR9.out
  obtain ⟨c9, n9, k9, A9, la9, ca9, B9, lb9, cb9⟩ := h'
  unfold BH.val
  dsimp only
  refine wpAnyH_ready (rs := [6]) (by kernel_rfl) (by simp) ?_
  refine AllReadyH.cons rfl (fun K hK => ?_) AllReadyH.nil
  go_simp
  refine hK.out _ _ (five_keep (HK9.out.mono (by simp)) (.inl (by simp))) (fun HS => ?_)
  clear hK K
  try simp only [Act.put, aL]
  refine wpAnyH_done (by kernel_rfl) ?_ _
  go_wp2_with fail
  have hrow := five_set (v0 := .int .u8 (c9 : Int)) (v1 := .int .u8 (n9 : Int)) (v2 := .bool k9) (v3 := .slice A9 la9 ca9) (v4 := .slice B9 lb9 cb9) HR9.out
  have hkf := five_keep (v0 := .int .u8 (c9 : Int)) (v1 := .int .u8 (n9 : Int)) (v2 := .bool k9) (v3 := .slice A9 la9 ca9) (v4 := .slice B9 lb9 cb9) (HK4.out.trans' HK9.out) (g := R) (.inr (by have := HRR.out; omega))
  have hks := five_keep (bs := [R]) (v0 := .int .u8 (c9 : Int)) (v1 := .int .u8 (n9 : Int)) (v2 := .bool k9) (v3 := .slice A9 la9 ca9) (v4 := .slice B9 lb9 cb9) (Keeps.refl [R] w9) (g := R) (.inl (by simp))
  refine ret_ber rfl rfl rfl hrow rfl ⟨⟨c9, n9, k9, A9, la9, ca9, B9, lb9, cb9⟩, rfl, fun E X hE hk => HB9.out (R :: E) X (fun x hx => ?_) ((hks.mono (by simp)).trans hk (fun x hx => .inl (List.mem_cons_of_mem _ hx))), hkf⟩
  have hz9 : w.heap.size + 2 ≤ (W4.drew).heap.size := by have := HG5.out; have := lt_of_heap HV4.out; show _ ≤ W4.heap.size; omega
  rcases List.mem_cons.1 hx with hx | hx
  ·have := HRR.out; omega
  ·have := hE x hx; omega
end Go.Proofs.YtbfebljahjmjfaaGreatDoor
/- filter: what the seven listed package-level variables give; a world that meets the condition. -/
namespace Go.Proofs.YtbfebljahjmjfaaGreatDoor
open Go.ChangeShapes Go.WideShapes Go.ChangeAt Go.WideMaps Go.WideElems Go.RowKit
set_option linter.unusedVariables false
set_option maxRecDepth 100000

def laid7f : List (String × DataW Unit) := [("math/bits.deBruijn32tab", Rows.laid_math_bits_deBruijn32tab), ("math/bits.deBruijn64tab", Rows.laid_math_bits_deBruijn64tab), ("internal/strconv.uint64pow10", Rows.laid_internal_strconv_uint64pow10), ("strconv.ErrRange", Rows.laid_strconv_ErrRange), ("strconv.ErrSyntax", Rows.laid_strconv_ErrSyntax), ("cardcase/filter.signs", Rows.laid_cardcase_filter_signs), ("cardcase/filter.nums", Rows.laid_cardcase_filter_nums)]
/-- The door's own heap meets the condition. -/
theorem door_met7f (os : Os) (args : Array Value) : laidMetH Tryz.prog laid7f ((World.doorLaid Tryz.prog 400 os).forCall (fun _ _ => 0) ⟨#[], args, []⟩).memory :=
 laidMetH_of_parts3 (fuel := 8) (laidMet_of_run' 8 (by kernel_rfl) (by kernel_rfl)) (by kernel_rfl) (by kernel_rfl)
theorem fil_of_laid7 {W : World} (h : laidMetH Tryz.prog laid7f W) : SgnAt W ∧ SynAt W ∧ NumsAt W := by
 rw [MakeChecks.laidMetH_plain _ _ _ (by kernel_rfl)] at h
 obtain ⟨a1, s1, hv1, _⟩ := laid_sentinel h.tail.tail.tail.tail (g := 3) (by kernel_rfl) (ti := 225) (by kernel_rfl) Tryz.underlying225 rowErr8 Tryz.underlying360 Tryz.underlying362 rfl rfl Tryz.underlying9 (by kernel_rfl) (by kernel_rfl)
 have h1 := World.var?_cell (g := 3) (by kernel_rfl) hv1 0
 have hv := txts_of_head (zs := [[], [38], [124], [33]]) (t := 171) (e := 9) (n := 4) (g := 0) (by kernel_rfl) (by kernel_rfl) Tryz.underlying171 Tryz.underlying9 (by kernel_rfl) (by kernel_rfl) h.tail.tail.tail.tail.tail
 have c1 := World.var?_cell (g := 0) (by kernel_rfl) hv 1
 have c2 := World.var?_cell (g := 0) (by kernel_rfl) hv 2
 have c3 := World.var?_cell (g := 0) (by kernel_rfl) hv 3
 have ht : Lib.TabIs Tryz.prog W "cardcase/filter.nums" .u8 [0, 0, 1, 2, 3, 4, 7] := Lib.tabIs_of_head (t := 228) (e := 5) (n := 7) (g := 1) (by kernel_rfl) (by kernel_rfl) Tryz.underlying228 Tryz.underlying5 (by kernel_rfl) (by kernel_rfl) h.tail.tail.tail.tail.tail.tail
 have n1 := ht.cell (g := 1) (by kernel_rfl) 1 (by decide)
 have n2 := ht.cell (g := 1) (by kernel_rfl) 2 (by decide)
 have n3 := ht.cell (g := 1) (by kernel_rfl) 3 (by decide)
 have n4 := ht.cell (g := 1) (by kernel_rfl) 4 (by decide)
 have n5 := ht.cell (g := 1) (by kernel_rfl) 5 (by decide)
 have n6 := ht.cell (g := 1) (by kernel_rfl) 6 (by decide)
 exact ⟨⟨by simpa [tv] using c1, by simpa [tv] using c2, by simpa [tv] using c3⟩, ⟨.iface 360 (.pointer (some a1)), by simpa using h1, .inr ⟨_, _, rfl⟩⟩, ⟨n1, n2, n3, n4, n5, n6⟩⟩
end Go.Proofs.YtbfebljahjmjfaaGreatDoor
