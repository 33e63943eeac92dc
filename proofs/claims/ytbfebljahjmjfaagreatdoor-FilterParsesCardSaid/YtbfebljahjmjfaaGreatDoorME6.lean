/- Texts of one proof, laid together: F15 F16. -/
import Derived.Test.YtbfebljahjmjfaaGreatDoorME5
import Derived.BigQuiet
/- filter: isMeant's closure; walked. -/
namespace Go.Proofs.YtbfebljahjmjfaaGreatDoor
open Go.RowKit Go.Shelf
set_option linter.unusedVariables false
set_option linter.unusedSimpArgs false
set_option maxRecDepth 100000

set_option maxHeartbeats 8000000 in
theorem ismeantc_is (gs : Nat) (S : SubV) (h : FH) (A : Option Addr) (n c : Nat) (of : List Bool) (lo lb : List At7) (w : World) (hgs : w.heap[gs]? = some (.cells #[.slice S.A S.n S.c, .slice S.B S.m S.d] 110 (0, 0))) (hS : SubOk w S lo lb) (hk1 : 1 ≤ h.k) (hk6 : h.k ≤ 6) (hk3 : h.k = 3 → 0 < n) (hs : h.s.length ≤ 9223372036854775807) (hv : h.v.length ≤ 9223372036854775807) (hof : BoolsIn w A n of) (hn : n ≤ 1000000) :
    Calls Tryz.prog 128 #[h.val, .slice A n c, .pointer (some ⟨gs, 0, none⟩)] w fun e w' => e = .returned (.bool (meanK (ents lo) (ents lb) h.k h.s h.v of)) ∧ Keeps [] w w' := by
  have HM := Lib.hid meanings_is
  have H1 := Lib.hid (fun X (hX : Keeps [] w X) => byall_is S h A n c of lo lb X (hS.grow hX) hs hv (hof.grow hX) hn)
  have H2 := Lib.hid (fun X (hX : Keeps [] w X) => byone_is S h A n c of lo lb X (hS.grow hX) hs hv (hof.grow hX) hn)
  have H3 := Lib.hid (fun X (hX : Keeps [] w X) (h0 : 0 < n) => bynot_is S h A n c of lo lb X (hS.grow hX) hs hv (hof.grow hX) hn h0)
  have H4 := Lib.hid (fun X (hX : Keeps [] w X) => byvalue_is S h A n c of lo lb X (hS.grow hX) hs hv (hof.grow hX) hn)
  have H5 := Lib.hid (fun X (hX : Keeps [] w X) => bybegin_is S h A n c of lo lb X (hS.grow hX) hs hv (hof.grow hX) hn)
  have H6 := Lib.hid (fun X (hX : Keeps [] w X) => byname_is S h A n c of lo lb X (hS.grow hX) hs hv (hof.grow hX) hn)
  have HGS := Lib.hid hgs
  obtain ⟨k, B, m, d, s, v⟩ := h
  dsimp only at hk1 hk6 hk3
  have HB1 := Lib.hid (heap_new8 w (.cells #[.int .i64 k, .slice B m d, .string ⟨s.toArray⟩, .string ⟨v.toArray⟩] 26))
  have HKB : Hid (Keeps [] w (w.alloc (.cells #[.int .i64 k, .slice B m d, .string ⟨s.toArray⟩, .string ⟨v.toArray⟩] 26))) := (Keeps.refl [] w).alloc _
  have HGS1 := Lib.hid (blk_keep hgs HKB.out (by simp))
  obtain ⟨SA, Sn, Sc, SB, Sm, Sd⟩ := S
  unfold SubV.val FH.val tv at *
  dsimp only at *
  clear hs hv hof hS hgs
  rcases (show k = 1 ∨ k = 2 ∨ k = 3 ∨ k = 4 ∨ k = 5 ∨ k = 6 by omega) with rfl | rfl | rfl | rfl | rfl | rfl
  · have HR := Lib.hid (show meanK (ents lo) (ents lb) 1 s v of = (!of.contains false) from rfl)
    rw [HR.out]
    obtain ⟨q, hq⟩ : ∃ q, (!of.contains false) = q := ⟨_, rfl⟩
    rw [hq] at H1 ⊢
    clear hq HR
    go_enter Tryz.func128, Tryz.ntmps128
    go_wp2_with fail
    generalize w.alloc (.cells #[.int .i64 1, .slice B m d, .string ⟨s.toArray⟩, .string ⟨v.toArray⟩] 26) = W1 at HKB HB1 HGS1 ⊢
    obtain ⟨g, hg⟩ : ∃ g, w.heap.size = g := ⟨_, rfl⟩
    rw [hg] at HB1 ⊢
    clear hg
    refine wp_region_held_drew (S := (fun X => Keeps [] W1 X)) (by kernel_rfl) ((Keeps.refl [] W1).drew) ?_
    intro HS
    refine wpAnyH_take (i := 1) (v := .pointer (some ⟨g, 0, none⟩)) rfl (by kernel_rfl) (by kernel_rfl) (by kernel_rfl) (fun _ _ _ h => h) (Or.inl ⟨by kernel_rfl, ?_⟩) HS ?_
    · intro w5 hw5
      go_simp
    simp only [List.getElem_toArray, List.getElem_cons_succ, List.getElem_cons_zero, Act.put, List.setIfInBounds_toArray, List.set_cons_zero, List.set_cons_succ]
    refine wpAnyH_take (i := 2) (v := .int .i64 1) rfl (by kernel_rfl) (by kernel_rfl) (by kernel_rfl) (fun _ _ _ h => h) (Or.inl ⟨by kernel_rfl, ?_⟩) HS ?_
    · intro w5 hw5
      obtain ⟨⟨d0, d1, d2, d3⟩, _⟩ := four_facts8 (blk_keep HB1.out hw5 (by simp))
      go_simp
    simp only [List.getElem_toArray, List.getElem_cons_succ, List.getElem_cons_zero, Act.put, List.setIfInBounds_toArray, List.set_cons_zero, List.set_cons_succ]
    refine wpAnyH_take (i := 4) (v := .agg #[.slice SA Sn Sc, .slice SB Sm Sd]) rfl (by kernel_rfl) (by kernel_rfl) (by kernel_rfl) (fun _ _ _ h => h) (Or.inl ⟨by kernel_rfl, ?_⟩) HS ?_
    · intro w5 hw5
      obtain ⟨⟨d0, d1⟩, _⟩ := blk2 (blk_keep HGS1.out hw5 (by simp))
      go_simp
    simp only [List.getElem_toArray, List.getElem_cons_succ, List.getElem_cons_zero, Act.put, List.setIfInBounds_toArray, List.set_cons_zero, List.set_cons_succ]
    refine wpAnyH_take (i := 5) (v := .agg #[.int .i64 1, .slice B m d, .string ⟨s.toArray⟩, .string ⟨v.toArray⟩]) rfl (by kernel_rfl) (by kernel_rfl) (by kernel_rfl) (fun _ _ _ h => h) (Or.inl ⟨by kernel_rfl, ?_⟩) HS ?_
    · intro w5 hw5
      obtain ⟨⟨d0, d1, d2, d3⟩, _⟩ := four_facts8 (blk_keep HB1.out hw5 (by simp))
      go_simp
    simp only [List.getElem_toArray, List.getElem_cons_succ, List.getElem_cons_zero, Act.put, List.setIfInBounds_toArray, List.set_cons_zero, List.set_cons_succ]
    refine wpAnyH_take (i := 6) (v := .slice A n c) rfl (by kernel_rfl) (by kernel_rfl) (by kernel_rfl) (fun _ _ _ h => h) (Or.inl ⟨by kernel_rfl, ?_⟩) HS ?_
    · intro w5 hw5
      go_simp
    simp only [List.getElem_toArray, List.getElem_cons_succ, List.getElem_cons_zero, Act.put, List.setIfInBounds_toArray, List.set_cons_zero, List.set_cons_succ]
    refine wpAnyH_ready (rs := [0]) (by kernel_rfl) (by simp) ?_
    refine AllReadyH.cons rfl (fun K hK => ?_) AllReadyH.nil
    go_simp
    refine (HM.out _).mono ?_
    rintro e w2 ⟨rfl, hk2⟩
    have HK2 := Lib.hid (((Keeps.refl [] W1).drew).trans' hk2)
    clear hk2
    refine hK.out _ _ HK2.out (fun HS => ?_)
    clear hK K
    try simp only [List.getElem_toArray, List.getElem_cons_succ, List.getElem_cons_zero, Act.put, List.setIfInBounds_toArray, List.set_cons_zero, List.set_cons_succ]
    refine wpAnyH_take (i := 3) (v := .func (.func 193) #[] #[]) rfl (by kernel_rfl) (by kernel_rfl) (by kernel_rfl) (fun _ _ _ h => h) (Or.inl ⟨by kernel_rfl, ?_⟩) HS ?_
    · intro w5 hw5
      go_simp
      rfl
    simp only [List.getElem_toArray, List.getElem_cons_succ, List.getElem_cons_zero, Act.put, List.setIfInBounds_toArray, List.set_cons_zero, List.set_cons_succ]
    refine wpAnyH_ready (rs := [7]) (by kernel_rfl) (by simp) ?_
    refine AllReadyH.cons rfl (fun K hK => ?_) AllReadyH.nil
    go_simp
    refine (H1.out _ (HKB.out.trans' HK2.out)).mono ?_
    rintro e w3 ⟨rfl, hk3'⟩
    have HK3 := Lib.hid (HK2.out.trans' hk3')
    clear hk3'
    refine hK.out _ _ HK3.out (fun HS => ?_)
    clear hK K
    try simp only [List.getElem_toArray, List.getElem_cons_succ, List.getElem_cons_zero, Act.put, List.setIfInBounds_toArray, List.set_cons_zero, List.set_cons_succ]
    refine wpAnyH_take (i := 8) (v := .bool q) rfl (by kernel_rfl) (by kernel_rfl) (by kernel_rfl) (fun _ _ _ h => h) (Or.inl ⟨by kernel_rfl, ?_⟩) HS ?_
    · intro w5 hw5
      go_simp
    simp only [List.getElem_toArray, List.getElem_cons_succ, List.getElem_cons_zero, Act.put, List.setIfInBounds_toArray, List.set_cons_zero, List.set_cons_succ]
    refine wpAnyH_done (by kernel_rfl) ?_ _
    go_wp2_with fail
    go_ret
    exact ⟨rfl, HKB.out.trans' HK3.out⟩
  · have HR := Lib.hid (show meanK (ents lo) (ents lb) 2 s v of = (of.contains true) from rfl)
    rw [HR.out]
    obtain ⟨q, hq⟩ : ∃ q, (of.contains true) = q := ⟨_, rfl⟩
    rw [hq] at H2 ⊢
    clear hq HR
    go_enter Tryz.func128, Tryz.ntmps128
    go_wp2_with fail
    generalize w.alloc (.cells #[.int .i64 2, .slice B m d, .string ⟨s.toArray⟩, .string ⟨v.toArray⟩] 26) = W1 at HKB HB1 HGS1 ⊢
    obtain ⟨g, hg⟩ : ∃ g, w.heap.size = g := ⟨_, rfl⟩
    rw [hg] at HB1 ⊢
    clear hg
    refine wp_region_held_drew (S := (fun X => Keeps [] W1 X)) (by kernel_rfl) ((Keeps.refl [] W1).drew) ?_
    intro HS
    refine wpAnyH_take (i := 1) (v := .pointer (some ⟨g, 0, none⟩)) rfl (by kernel_rfl) (by kernel_rfl) (by kernel_rfl) (fun _ _ _ h => h) (Or.inl ⟨by kernel_rfl, ?_⟩) HS ?_
    · intro w5 hw5
      go_simp
    simp only [List.getElem_toArray, List.getElem_cons_succ, List.getElem_cons_zero, Act.put, List.setIfInBounds_toArray, List.set_cons_zero, List.set_cons_succ]
    refine wpAnyH_take (i := 2) (v := .int .i64 2) rfl (by kernel_rfl) (by kernel_rfl) (by kernel_rfl) (fun _ _ _ h => h) (Or.inl ⟨by kernel_rfl, ?_⟩) HS ?_
    · intro w5 hw5
      obtain ⟨⟨d0, d1, d2, d3⟩, _⟩ := four_facts8 (blk_keep HB1.out hw5 (by simp))
      go_simp
    simp only [List.getElem_toArray, List.getElem_cons_succ, List.getElem_cons_zero, Act.put, List.setIfInBounds_toArray, List.set_cons_zero, List.set_cons_succ]
    refine wpAnyH_take (i := 4) (v := .agg #[.slice SA Sn Sc, .slice SB Sm Sd]) rfl (by kernel_rfl) (by kernel_rfl) (by kernel_rfl) (fun _ _ _ h => h) (Or.inl ⟨by kernel_rfl, ?_⟩) HS ?_
    · intro w5 hw5
      obtain ⟨⟨d0, d1⟩, _⟩ := blk2 (blk_keep HGS1.out hw5 (by simp))
      go_simp
    simp only [List.getElem_toArray, List.getElem_cons_succ, List.getElem_cons_zero, Act.put, List.setIfInBounds_toArray, List.set_cons_zero, List.set_cons_succ]
    refine wpAnyH_take (i := 5) (v := .agg #[.int .i64 2, .slice B m d, .string ⟨s.toArray⟩, .string ⟨v.toArray⟩]) rfl (by kernel_rfl) (by kernel_rfl) (by kernel_rfl) (fun _ _ _ h => h) (Or.inl ⟨by kernel_rfl, ?_⟩) HS ?_
    · intro w5 hw5
      obtain ⟨⟨d0, d1, d2, d3⟩, _⟩ := four_facts8 (blk_keep HB1.out hw5 (by simp))
      go_simp
    simp only [List.getElem_toArray, List.getElem_cons_succ, List.getElem_cons_zero, Act.put, List.setIfInBounds_toArray, List.set_cons_zero, List.set_cons_succ]
    refine wpAnyH_take (i := 6) (v := .slice A n c) rfl (by kernel_rfl) (by kernel_rfl) (by kernel_rfl) (fun _ _ _ h => h) (Or.inl ⟨by kernel_rfl, ?_⟩) HS ?_
    · intro w5 hw5
      go_simp
    simp only [List.getElem_toArray, List.getElem_cons_succ, List.getElem_cons_zero, Act.put, List.setIfInBounds_toArray, List.set_cons_zero, List.set_cons_succ]
    refine wpAnyH_ready (rs := [0]) (by kernel_rfl) (by simp) ?_
    refine AllReadyH.cons rfl (fun K hK => ?_) AllReadyH.nil
    go_simp
    refine (HM.out _).mono ?_
    rintro e w2 ⟨rfl, hk2⟩
    have HK2 := Lib.hid (((Keeps.refl [] W1).drew).trans' hk2)
    clear hk2
    refine hK.out _ _ HK2.out (fun HS => ?_)
    clear hK K
    try simp only [List.getElem_toArray, List.getElem_cons_succ, List.getElem_cons_zero, Act.put, List.setIfInBounds_toArray, List.set_cons_zero, List.set_cons_succ]
    refine wpAnyH_take (i := 3) (v := .func (.func 194) #[] #[]) rfl (by kernel_rfl) (by kernel_rfl) (by kernel_rfl) (fun _ _ _ h => h) (Or.inl ⟨by kernel_rfl, ?_⟩) HS ?_
    · intro w5 hw5
      go_simp
      rfl
    simp only [List.getElem_toArray, List.getElem_cons_succ, List.getElem_cons_zero, Act.put, List.setIfInBounds_toArray, List.set_cons_zero, List.set_cons_succ]
    refine wpAnyH_ready (rs := [7]) (by kernel_rfl) (by simp) ?_
    refine AllReadyH.cons rfl (fun K hK => ?_) AllReadyH.nil
    go_simp
    refine (H2.out _ (HKB.out.trans' HK2.out)).mono ?_
    rintro e w3 ⟨rfl, hk3'⟩
    have HK3 := Lib.hid (HK2.out.trans' hk3')
    clear hk3'
    refine hK.out _ _ HK3.out (fun HS => ?_)
    clear hK K
    try simp only [List.getElem_toArray, List.getElem_cons_succ, List.getElem_cons_zero, Act.put, List.setIfInBounds_toArray, List.set_cons_zero, List.set_cons_succ]
    refine wpAnyH_take (i := 8) (v := .bool q) rfl (by kernel_rfl) (by kernel_rfl) (by kernel_rfl) (fun _ _ _ h => h) (Or.inl ⟨by kernel_rfl, ?_⟩) HS ?_
    · intro w5 hw5
      go_simp
    simp only [List.getElem_toArray, List.getElem_cons_succ, List.getElem_cons_zero, Act.put, List.setIfInBounds_toArray, List.set_cons_zero, List.set_cons_succ]
    refine wpAnyH_done (by kernel_rfl) ?_ _
    go_wp2_with fail
    go_ret
    exact ⟨rfl, HKB.out.trans' HK3.out⟩
  · have HR := Lib.hid (show meanK (ents lo) (ents lb) 3 s v of = (!(of.head?.getD false)) from rfl)
    rw [HR.out]
    obtain ⟨q, hq⟩ : ∃ q, (!(of.head?.getD false)) = q := ⟨_, rfl⟩
    rw [hq] at H3 ⊢
    clear hq HR
    go_enter Tryz.func128, Tryz.ntmps128
    go_wp2_with fail
    generalize w.alloc (.cells #[.int .i64 3, .slice B m d, .string ⟨s.toArray⟩, .string ⟨v.toArray⟩] 26) = W1 at HKB HB1 HGS1 ⊢
    obtain ⟨g, hg⟩ : ∃ g, w.heap.size = g := ⟨_, rfl⟩
    rw [hg] at HB1 ⊢
    clear hg
    refine wp_region_held_drew (S := (fun X => Keeps [] W1 X)) (by kernel_rfl) ((Keeps.refl [] W1).drew) ?_
    intro HS
    refine wpAnyH_take (i := 1) (v := .pointer (some ⟨g, 0, none⟩)) rfl (by kernel_rfl) (by kernel_rfl) (by kernel_rfl) (fun _ _ _ h => h) (Or.inl ⟨by kernel_rfl, ?_⟩) HS ?_
    · intro w5 hw5
      go_simp
    simp only [List.getElem_toArray, List.getElem_cons_succ, List.getElem_cons_zero, Act.put, List.setIfInBounds_toArray, List.set_cons_zero, List.set_cons_succ]
    refine wpAnyH_take (i := 2) (v := .int .i64 3) rfl (by kernel_rfl) (by kernel_rfl) (by kernel_rfl) (fun _ _ _ h => h) (Or.inl ⟨by kernel_rfl, ?_⟩) HS ?_
    · intro w5 hw5
      obtain ⟨⟨d0, d1, d2, d3⟩, _⟩ := four_facts8 (blk_keep HB1.out hw5 (by simp))
      go_simp
    simp only [List.getElem_toArray, List.getElem_cons_succ, List.getElem_cons_zero, Act.put, List.setIfInBounds_toArray, List.set_cons_zero, List.set_cons_succ]
    refine wpAnyH_take (i := 4) (v := .agg #[.slice SA Sn Sc, .slice SB Sm Sd]) rfl (by kernel_rfl) (by kernel_rfl) (by kernel_rfl) (fun _ _ _ h => h) (Or.inl ⟨by kernel_rfl, ?_⟩) HS ?_
    · intro w5 hw5
      obtain ⟨⟨d0, d1⟩, _⟩ := blk2 (blk_keep HGS1.out hw5 (by simp))
      go_simp
    simp only [List.getElem_toArray, List.getElem_cons_succ, List.getElem_cons_zero, Act.put, List.setIfInBounds_toArray, List.set_cons_zero, List.set_cons_succ]
    refine wpAnyH_take (i := 5) (v := .agg #[.int .i64 3, .slice B m d, .string ⟨s.toArray⟩, .string ⟨v.toArray⟩]) rfl (by kernel_rfl) (by kernel_rfl) (by kernel_rfl) (fun _ _ _ h => h) (Or.inl ⟨by kernel_rfl, ?_⟩) HS ?_
    · intro w5 hw5
      obtain ⟨⟨d0, d1, d2, d3⟩, _⟩ := four_facts8 (blk_keep HB1.out hw5 (by simp))
      go_simp
    simp only [List.getElem_toArray, List.getElem_cons_succ, List.getElem_cons_zero, Act.put, List.setIfInBounds_toArray, List.set_cons_zero, List.set_cons_succ]
    refine wpAnyH_take (i := 6) (v := .slice A n c) rfl (by kernel_rfl) (by kernel_rfl) (by kernel_rfl) (fun _ _ _ h => h) (Or.inl ⟨by kernel_rfl, ?_⟩) HS ?_
    · intro w5 hw5
      go_simp
    simp only [List.getElem_toArray, List.getElem_cons_succ, List.getElem_cons_zero, Act.put, List.setIfInBounds_toArray, List.set_cons_zero, List.set_cons_succ]
    refine wpAnyH_ready (rs := [0]) (by kernel_rfl) (by simp) ?_
    refine AllReadyH.cons rfl (fun K hK => ?_) AllReadyH.nil
    go_simp
    refine (HM.out _).mono ?_
    rintro e w2 ⟨rfl, hk2⟩
    have HK2 := Lib.hid (((Keeps.refl [] W1).drew).trans' hk2)
    clear hk2
    refine hK.out _ _ HK2.out (fun HS => ?_)
    clear hK K
    try simp only [List.getElem_toArray, List.getElem_cons_succ, List.getElem_cons_zero, Act.put, List.setIfInBounds_toArray, List.set_cons_zero, List.set_cons_succ]
    refine wpAnyH_take (i := 3) (v := .func (.func 195) #[] #[]) rfl (by kernel_rfl) (by kernel_rfl) (by kernel_rfl) (fun _ _ _ h => h) (Or.inl ⟨by kernel_rfl, ?_⟩) HS ?_
    · intro w5 hw5
      go_simp
      rfl
    simp only [List.getElem_toArray, List.getElem_cons_succ, List.getElem_cons_zero, Act.put, List.setIfInBounds_toArray, List.set_cons_zero, List.set_cons_succ]
    refine wpAnyH_ready (rs := [7]) (by kernel_rfl) (by simp) ?_
    refine AllReadyH.cons rfl (fun K hK => ?_) AllReadyH.nil
    go_simp
    refine (H3.out _ (HKB.out.trans' HK2.out) (by first | exact hk3 rfl | exact hk3 trivial | exact hk3)).mono ?_
    rintro e w3 ⟨rfl, hk3'⟩
    have HK3 := Lib.hid (HK2.out.trans' hk3')
    clear hk3'
    refine hK.out _ _ HK3.out (fun HS => ?_)
    clear hK K
    try simp only [List.getElem_toArray, List.getElem_cons_succ, List.getElem_cons_zero, Act.put, List.setIfInBounds_toArray, List.set_cons_zero, List.set_cons_succ]
    refine wpAnyH_take (i := 8) (v := .bool q) rfl (by kernel_rfl) (by kernel_rfl) (by kernel_rfl) (fun _ _ _ h => h) (Or.inl ⟨by kernel_rfl, ?_⟩) HS ?_
    · intro w5 hw5
      go_simp
    simp only [List.getElem_toArray, List.getElem_cons_succ, List.getElem_cons_zero, Act.put, List.setIfInBounds_toArray, List.set_cons_zero, List.set_cons_succ]
    refine wpAnyH_done (by kernel_rfl) ?_ _
    go_wp2_with fail
    go_ret
    exact ⟨rfl, HKB.out.trans' HK3.out⟩
  · have HR := Lib.hid (show meanK (ents lo) (ents lb) 4 s v of = ((valsS (ents lo) (ents lb) s).any (fun x => smallL x == smallL v)) from rfl)
    rw [HR.out]
    obtain ⟨q, hq⟩ : ∃ q, ((valsS (ents lo) (ents lb) s).any (fun x => smallL x == smallL v)) = q := ⟨_, rfl⟩
    rw [hq] at H4 ⊢
    clear hq HR
    go_enter Tryz.func128, Tryz.ntmps128
    go_wp2_with fail
    generalize w.alloc (.cells #[.int .i64 4, .slice B m d, .string ⟨s.toArray⟩, .string ⟨v.toArray⟩] 26) = W1 at HKB HB1 HGS1 ⊢
    obtain ⟨g, hg⟩ : ∃ g, w.heap.size = g := ⟨_, rfl⟩
    rw [hg] at HB1 ⊢
    clear hg
    refine wp_region_held_drew (S := (fun X => Keeps [] W1 X)) (by kernel_rfl) ((Keeps.refl [] W1).drew) ?_
    intro HS
    refine wpAnyH_take (i := 1) (v := .pointer (some ⟨g, 0, none⟩)) rfl (by kernel_rfl) (by kernel_rfl) (by kernel_rfl) (fun _ _ _ h => h) (Or.inl ⟨by kernel_rfl, ?_⟩) HS ?_
    · intro w5 hw5
      go_simp
    simp only [List.getElem_toArray, List.getElem_cons_succ, List.getElem_cons_zero, Act.put, List.setIfInBounds_toArray, List.set_cons_zero, List.set_cons_succ]
    refine wpAnyH_take (i := 2) (v := .int .i64 4) rfl (by kernel_rfl) (by kernel_rfl) (by kernel_rfl) (fun _ _ _ h => h) (Or.inl ⟨by kernel_rfl, ?_⟩) HS ?_
    · intro w5 hw5
      obtain ⟨⟨d0, d1, d2, d3⟩, _⟩ := four_facts8 (blk_keep HB1.out hw5 (by simp))
      go_simp
    simp only [List.getElem_toArray, List.getElem_cons_succ, List.getElem_cons_zero, Act.put, List.setIfInBounds_toArray, List.set_cons_zero, List.set_cons_succ]
    refine wpAnyH_take (i := 4) (v := .agg #[.slice SA Sn Sc, .slice SB Sm Sd]) rfl (by kernel_rfl) (by kernel_rfl) (by kernel_rfl) (fun _ _ _ h => h) (Or.inl ⟨by kernel_rfl, ?_⟩) HS ?_
    · intro w5 hw5
      obtain ⟨⟨d0, d1⟩, _⟩ := blk2 (blk_keep HGS1.out hw5 (by simp))
      go_simp
    simp only [List.getElem_toArray, List.getElem_cons_succ, List.getElem_cons_zero, Act.put, List.setIfInBounds_toArray, List.set_cons_zero, List.set_cons_succ]
    refine wpAnyH_take (i := 5) (v := .agg #[.int .i64 4, .slice B m d, .string ⟨s.toArray⟩, .string ⟨v.toArray⟩]) rfl (by kernel_rfl) (by kernel_rfl) (by kernel_rfl) (fun _ _ _ h => h) (Or.inl ⟨by kernel_rfl, ?_⟩) HS ?_
    · intro w5 hw5
      obtain ⟨⟨d0, d1, d2, d3⟩, _⟩ := four_facts8 (blk_keep HB1.out hw5 (by simp))
      go_simp
    simp only [List.getElem_toArray, List.getElem_cons_succ, List.getElem_cons_zero, Act.put, List.setIfInBounds_toArray, List.set_cons_zero, List.set_cons_succ]
    refine wpAnyH_take (i := 6) (v := .slice A n c) rfl (by kernel_rfl) (by kernel_rfl) (by kernel_rfl) (fun _ _ _ h => h) (Or.inl ⟨by kernel_rfl, ?_⟩) HS ?_
    · intro w5 hw5
      go_simp
    simp only [List.getElem_toArray, List.getElem_cons_succ, List.getElem_cons_zero, Act.put, List.setIfInBounds_toArray, List.set_cons_zero, List.set_cons_succ]
    refine wpAnyH_ready (rs := [0]) (by kernel_rfl) (by simp) ?_
    refine AllReadyH.cons rfl (fun K hK => ?_) AllReadyH.nil
    go_simp
    refine (HM.out _).mono ?_
    rintro e w2 ⟨rfl, hk2⟩
    have HK2 := Lib.hid (((Keeps.refl [] W1).drew).trans' hk2)
    clear hk2
    refine hK.out _ _ HK2.out (fun HS => ?_)
    clear hK K
    try simp only [List.getElem_toArray, List.getElem_cons_succ, List.getElem_cons_zero, Act.put, List.setIfInBounds_toArray, List.set_cons_zero, List.set_cons_succ]
    refine wpAnyH_take (i := 3) (v := .func (.func 196) #[] #[]) rfl (by kernel_rfl) (by kernel_rfl) (by kernel_rfl) (fun _ _ _ h => h) (Or.inl ⟨by kernel_rfl, ?_⟩) HS ?_
    · intro w5 hw5
      go_simp
      rfl
    simp only [List.getElem_toArray, List.getElem_cons_succ, List.getElem_cons_zero, Act.put, List.setIfInBounds_toArray, List.set_cons_zero, List.set_cons_succ]
    refine wpAnyH_ready (rs := [7]) (by kernel_rfl) (by simp) ?_
    refine AllReadyH.cons rfl (fun K hK => ?_) AllReadyH.nil
    go_simp
    refine (H4.out _ (HKB.out.trans' HK2.out)).mono ?_
    rintro e w3 ⟨rfl, hk3'⟩
    have HK3 := Lib.hid (HK2.out.trans' hk3')
    clear hk3'
    refine hK.out _ _ HK3.out (fun HS => ?_)
    clear hK K
    try simp only [List.getElem_toArray, List.getElem_cons_succ, List.getElem_cons_zero, Act.put, List.setIfInBounds_toArray, List.set_cons_zero, List.set_cons_succ]
    refine wpAnyH_take (i := 8) (v := .bool q) rfl (by kernel_rfl) (by kernel_rfl) (by kernel_rfl) (fun _ _ _ h => h) (Or.inl ⟨by kernel_rfl, ?_⟩) HS ?_
    · intro w5 hw5
      go_simp
    simp only [List.getElem_toArray, List.getElem_cons_succ, List.getElem_cons_zero, Act.put, List.setIfInBounds_toArray, List.set_cons_zero, List.set_cons_succ]
    refine wpAnyH_done (by kernel_rfl) ?_ _
    go_wp2_with fail
    go_ret
    exact ⟨rfl, HKB.out.trans' HK3.out⟩
  · have HR := Lib.hid (show meanK (ents lo) (ents lb) 5 s v of = ((valsS (ents lo) (ents lb) s).any (fun x => begP (smallL v) (smallL x))) from rfl)
    rw [HR.out]
    obtain ⟨q, hq⟩ : ∃ q, ((valsS (ents lo) (ents lb) s).any (fun x => begP (smallL v) (smallL x))) = q := ⟨_, rfl⟩
    rw [hq] at H5 ⊢
    clear hq HR
    go_enter Tryz.func128, Tryz.ntmps128
    go_wp2_with fail
    generalize w.alloc (.cells #[.int .i64 5, .slice B m d, .string ⟨s.toArray⟩, .string ⟨v.toArray⟩] 26) = W1 at HKB HB1 HGS1 ⊢
    obtain ⟨g, hg⟩ : ∃ g, w.heap.size = g := ⟨_, rfl⟩
    rw [hg] at HB1 ⊢
    clear hg
    refine wp_region_held_drew (S := (fun X => Keeps [] W1 X)) (by kernel_rfl) ((Keeps.refl [] W1).drew) ?_
    intro HS
    refine wpAnyH_take (i := 1) (v := .pointer (some ⟨g, 0, none⟩)) rfl (by kernel_rfl) (by kernel_rfl) (by kernel_rfl) (fun _ _ _ h => h) (Or.inl ⟨by kernel_rfl, ?_⟩) HS ?_
    · intro w5 hw5
      go_simp
    simp only [List.getElem_toArray, List.getElem_cons_succ, List.getElem_cons_zero, Act.put, List.setIfInBounds_toArray, List.set_cons_zero, List.set_cons_succ]
    refine wpAnyH_take (i := 2) (v := .int .i64 5) rfl (by kernel_rfl) (by kernel_rfl) (by kernel_rfl) (fun _ _ _ h => h) (Or.inl ⟨by kernel_rfl, ?_⟩) HS ?_
    · intro w5 hw5
      obtain ⟨⟨d0, d1, d2, d3⟩, _⟩ := four_facts8 (blk_keep HB1.out hw5 (by simp))
      go_simp
    simp only [List.getElem_toArray, List.getElem_cons_succ, List.getElem_cons_zero, Act.put, List.setIfInBounds_toArray, List.set_cons_zero, List.set_cons_succ]
    refine wpAnyH_take (i := 4) (v := .agg #[.slice SA Sn Sc, .slice SB Sm Sd]) rfl (by kernel_rfl) (by kernel_rfl) (by kernel_rfl) (fun _ _ _ h => h) (Or.inl ⟨by kernel_rfl, ?_⟩) HS ?_
    · intro w5 hw5
      obtain ⟨⟨d0, d1⟩, _⟩ := blk2 (blk_keep HGS1.out hw5 (by simp))
      go_simp
    simp only [List.getElem_toArray, List.getElem_cons_succ, List.getElem_cons_zero, Act.put, List.setIfInBounds_toArray, List.set_cons_zero, List.set_cons_succ]
    refine wpAnyH_take (i := 5) (v := .agg #[.int .i64 5, .slice B m d, .string ⟨s.toArray⟩, .string ⟨v.toArray⟩]) rfl (by kernel_rfl) (by kernel_rfl) (by kernel_rfl) (fun _ _ _ h => h) (Or.inl ⟨by kernel_rfl, ?_⟩) HS ?_
    · intro w5 hw5
      obtain ⟨⟨d0, d1, d2, d3⟩, _⟩ := four_facts8 (blk_keep HB1.out hw5 (by simp))
      go_simp
    simp only [List.getElem_toArray, List.getElem_cons_succ, List.getElem_cons_zero, Act.put, List.setIfInBounds_toArray, List.set_cons_zero, List.set_cons_succ]
    refine wpAnyH_take (i := 6) (v := .slice A n c) rfl (by kernel_rfl) (by kernel_rfl) (by kernel_rfl) (fun _ _ _ h => h) (Or.inl ⟨by kernel_rfl, ?_⟩) HS ?_
    · intro w5 hw5
      go_simp
    simp only [List.getElem_toArray, List.getElem_cons_succ, List.getElem_cons_zero, Act.put, List.setIfInBounds_toArray, List.set_cons_zero, List.set_cons_succ]
    refine wpAnyH_ready (rs := [0]) (by kernel_rfl) (by simp) ?_
    refine AllReadyH.cons rfl (fun K hK => ?_) AllReadyH.nil
    go_simp
    refine (HM.out _).mono ?_
    rintro e w2 ⟨rfl, hk2⟩
    have HK2 := Lib.hid (((Keeps.refl [] W1).drew).trans' hk2)
    clear hk2
    refine hK.out _ _ HK2.out (fun HS => ?_)
    clear hK K
    try simp only [List.getElem_toArray, List.getElem_cons_succ, List.getElem_cons_zero, Act.put, List.setIfInBounds_toArray, List.set_cons_zero, List.set_cons_succ]
    refine wpAnyH_take (i := 3) (v := .func (.func 197) #[] #[]) rfl (by kernel_rfl) (by kernel_rfl) (by kernel_rfl) (fun _ _ _ h => h) (Or.inl ⟨by kernel_rfl, ?_⟩) HS ?_
    · intro w5 hw5
      go_simp
      rfl
    simp only [List.getElem_toArray, List.getElem_cons_succ, List.getElem_cons_zero, Act.put, List.setIfInBounds_toArray, List.set_cons_zero, List.set_cons_succ]
    refine wpAnyH_ready (rs := [7]) (by kernel_rfl) (by simp) ?_
    refine AllReadyH.cons rfl (fun K hK => ?_) AllReadyH.nil
    go_simp
    refine (H5.out _ (HKB.out.trans' HK2.out)).mono ?_
    rintro e w3 ⟨rfl, hk3'⟩
    have HK3 := Lib.hid (HK2.out.trans' hk3')
    clear hk3'
    refine hK.out _ _ HK3.out (fun HS => ?_)
    clear hK K
    try simp only [List.getElem_toArray, List.getElem_cons_succ, List.getElem_cons_zero, Act.put, List.setIfInBounds_toArray, List.set_cons_zero, List.set_cons_succ]
    refine wpAnyH_take (i := 8) (v := .bool q) rfl (by kernel_rfl) (by kernel_rfl) (by kernel_rfl) (fun _ _ _ h => h) (Or.inl ⟨by kernel_rfl, ?_⟩) HS ?_
    · intro w5 hw5
      go_simp
    simp only [List.getElem_toArray, List.getElem_cons_succ, List.getElem_cons_zero, Act.put, List.setIfInBounds_toArray, List.set_cons_zero, List.set_cons_succ]
    refine wpAnyH_done (by kernel_rfl) ?_ _
    go_wp2_with fail
    go_ret
    exact ⟨rfl, HKB.out.trans' HK3.out⟩
  · have HR := Lib.hid (show meanK (ents lo) (ents lb) 6 s v of = (decide (0 < (valsS (ents lo) (ents lb) s).length)) from rfl)
    rw [HR.out]
    obtain ⟨q, hq⟩ : ∃ q, (decide (0 < (valsS (ents lo) (ents lb) s).length)) = q := ⟨_, rfl⟩
    rw [hq] at H6 ⊢
    clear hq HR
    go_enter Tryz.func128, Tryz.ntmps128
    go_wp2_with fail
    generalize w.alloc (.cells #[.int .i64 6, .slice B m d, .string ⟨s.toArray⟩, .string ⟨v.toArray⟩] 26) = W1 at HKB HB1 HGS1 ⊢
    obtain ⟨g, hg⟩ : ∃ g, w.heap.size = g := ⟨_, rfl⟩
    rw [hg] at HB1 ⊢
    clear hg
    refine wp_region_held_drew (S := (fun X => Keeps [] W1 X)) (by kernel_rfl) ((Keeps.refl [] W1).drew) ?_
    intro HS
    refine wpAnyH_take (i := 1) (v := .pointer (some ⟨g, 0, none⟩)) rfl (by kernel_rfl) (by kernel_rfl) (by kernel_rfl) (fun _ _ _ h => h) (Or.inl ⟨by kernel_rfl, ?_⟩) HS ?_
    · intro w5 hw5
      go_simp
    simp only [List.getElem_toArray, List.getElem_cons_succ, List.getElem_cons_zero, Act.put, List.setIfInBounds_toArray, List.set_cons_zero, List.set_cons_succ]
    refine wpAnyH_take (i := 2) (v := .int .i64 6) rfl (by kernel_rfl) (by kernel_rfl) (by kernel_rfl) (fun _ _ _ h => h) (Or.inl ⟨by kernel_rfl, ?_⟩) HS ?_
    · intro w5 hw5
      obtain ⟨⟨d0, d1, d2, d3⟩, _⟩ := four_facts8 (blk_keep HB1.out hw5 (by simp))
      go_simp
    simp only [List.getElem_toArray, List.getElem_cons_succ, List.getElem_cons_zero, Act.put, List.setIfInBounds_toArray, List.set_cons_zero, List.set_cons_succ]
    refine wpAnyH_take (i := 4) (v := .agg #[.slice SA Sn Sc, .slice SB Sm Sd]) rfl (by kernel_rfl) (by kernel_rfl) (by kernel_rfl) (fun _ _ _ h => h) (Or.inl ⟨by kernel_rfl, ?_⟩) HS ?_
    · intro w5 hw5
      obtain ⟨⟨d0, d1⟩, _⟩ := blk2 (blk_keep HGS1.out hw5 (by simp))
      go_simp
    simp only [List.getElem_toArray, List.getElem_cons_succ, List.getElem_cons_zero, Act.put, List.setIfInBounds_toArray, List.set_cons_zero, List.set_cons_succ]
    refine wpAnyH_take (i := 5) (v := .agg #[.int .i64 6, .slice B m d, .string ⟨s.toArray⟩, .string ⟨v.toArray⟩]) rfl (by kernel_rfl) (by kernel_rfl) (by kernel_rfl) (fun _ _ _ h => h) (Or.inl ⟨by kernel_rfl, ?_⟩) HS ?_
    · intro w5 hw5
      obtain ⟨⟨d0, d1, d2, d3⟩, _⟩ := four_facts8 (blk_keep HB1.out hw5 (by simp))
      go_simp
    simp only [List.getElem_toArray, List.getElem_cons_succ, List.getElem_cons_zero, Act.put, List.setIfInBounds_toArray, List.set_cons_zero, List.set_cons_succ]
    refine wpAnyH_take (i := 6) (v := .slice A n c) rfl (by kernel_rfl) (by kernel_rfl) (by kernel_rfl) (fun _ _ _ h => h) (Or.inl ⟨by kernel_rfl, ?_⟩) HS ?_
    · intro w5 hw5
      go_simp
    simp only [List.getElem_toArray, List.getElem_cons_succ, List.getElem_cons_zero, Act.put, List.setIfInBounds_toArray, List.set_cons_zero, List.set_cons_succ]
    refine wpAnyH_ready (rs := [0]) (by kernel_rfl) (by simp) ?_
    refine AllReadyH.cons rfl (fun K hK => ?_) AllReadyH.nil
    go_simp
    refine (HM.out _).mono ?_
    rintro e w2 ⟨rfl, hk2⟩
    have HK2 := Lib.hid (((Keeps.refl [] W1).drew).trans' hk2)
    clear hk2
    refine hK.out _ _ HK2.out (fun HS => ?_)
    clear hK K
    try simp only [List.getElem_toArray, List.getElem_cons_succ, List.getElem_cons_zero, Act.put, List.setIfInBounds_toArray, List.set_cons_zero, List.set_cons_succ]
    refine wpAnyH_take (i := 3) (v := .func (.func 198) #[] #[]) rfl (by kernel_rfl) (by kernel_rfl) (by kernel_rfl) (fun _ _ _ h => h) (Or.inl ⟨by kernel_rfl, ?_⟩) HS ?_
    · intro w5 hw5
      go_simp
      rfl
    simp only [List.getElem_toArray, List.getElem_cons_succ, List.getElem_cons_zero, Act.put, List.setIfInBounds_toArray, List.set_cons_zero, List.set_cons_succ]
    refine wpAnyH_ready (rs := [7]) (by kernel_rfl) (by simp) ?_
    refine AllReadyH.cons rfl (fun K hK => ?_) AllReadyH.nil
    go_simp
    refine (H6.out _ (HKB.out.trans' HK2.out)).mono ?_
    rintro e w3 ⟨rfl, hk3'⟩
    have HK3 := Lib.hid (HK2.out.trans' hk3')
    clear hk3'
    refine hK.out _ _ HK3.out (fun HS => ?_)
    clear hK K
    try simp only [List.getElem_toArray, List.getElem_cons_succ, List.getElem_cons_zero, Act.put, List.setIfInBounds_toArray, List.set_cons_zero, List.set_cons_succ]
    refine wpAnyH_take (i := 8) (v := .bool q) rfl (by kernel_rfl) (by kernel_rfl) (by kernel_rfl) (fun _ _ _ h => h) (Or.inl ⟨by kernel_rfl, ?_⟩) HS ?_
    · intro w5 hw5
      go_simp
    simp only [List.getElem_toArray, List.getElem_cons_succ, List.getElem_cons_zero, Act.put, List.setIfInBounds_toArray, List.set_cons_zero, List.set_cons_succ]
    refine wpAnyH_done (by kernel_rfl) ?_ _
    go_wp2_with fail
    go_ret
    exact ⟨rfl, HKB.out.trans' HK3.out⟩
end Go.Proofs.YtbfebljahjmjfaaGreatDoor
/- filter: is a subject meant: through with truths; walked. -/
namespace Go.Proofs.YtbfebljahjmjfaaGreatDoor
open Go.RowKit Go.Shelf
set_option linter.unusedVariables false
set_option linter.unusedSimpArgs false
set_option maxRecDepth 100000

mutual
/-- What a filter means. -/
def meanF (own beside : List Att) : FV → Bool
  | .mk k l s v => meanK own beside k s v (meanFL own beside l)
def meanFL (own beside : List Att) : List FV → List Bool
  | [] => []
  | t :: r => meanF own beside t :: meanFL own beside r
end
theorem meanFL_map (own beside : List Att) : ∀ l : List FV, meanFL own beside l = l.map (meanF own beside)
  | [] => by simp [meanFL]
  | t :: r => by simp [meanFL, meanFL_map own beside r]
theorem alone_kinds {k : Int} {n : Nat} {s v : Txt} (h : aloneH k n s v = true) : 1 ≤ k ∧ k ≤ 6 ∧ (k = 3 → n = 1) := by
  unfold aloneH at h
  split at h
  · omega
  · split at h
    · simp at h
      exact ⟨by omega, by omega, fun _ => h.2.2⟩
    · split at h
      · omega
      · split at h
        · omega
        · cases h
theorem alone_low (k : Int) (n : Nat) (s v : Txt) : aloneH k n (smallL s) v = aloneH k n s v := by
  unfold aloneH
  rw [nameT_low8, show (smallL s).isEmpty = s.isEmpty by cases s <;> rfl]
mutual
theorem thruF_low : ∀ (t : FV) (d m : Nat), thruF aloneF d m (lowF t) = thruF aloneF d m t
  | .mk k l s v, d, m => by
    simp only [lowF, thruF, thruL_low l, aloneF_is, alone_low]
    rw [show (lowFL l).length = l.length by rw [lowFL_map, List.length_map]]
    cases thruL aloneF (d + 1) (m + 1) l <;> rfl
theorem thruL_low : ∀ (l : List FV) (d m : Nat), thruL aloneF d m (lowFL l) = thruL aloneF d m l
  | [], d, m => by simp [lowFL]
  | t :: r, d, m => by
    simp only [lowFL, thruL, thruF_low t]
    cases thruF aloneF d m t with
    | none => rfl
    | some n => exact thruL_low r d n
end
theorem bool_info8 : (Tryz.prog.info? 4).map (fun i => (i.zero, i.size, i.bytes)) = some (some (.bool false), 1, 1) := by kernel_rfl
theorem src_oneb (w : World) (q : Bool) (t : TypeId) : Src (w.alloc (.cells #[.bool q] t)) (some ⟨w.heap.size, 0, none⟩) 1 [.bool q] := by
  refine ⟨(fun h => by cases h), fun ad hA j u hu => ?_⟩
  cases hA
  rw [add_at, Nat.zero_add, World.cell?_alloc_new]
  simpa using hu
/-- What a round finds. -/
structure ThrBS (own beside : List Att) (w wr : World) (gm gn : Nat) (no : Int) (d m : Nat) (l : List FV) (j : Nat) (A : Option Addr) (c n : Nat) : Prop where
  cnt : thruL aloneF (d + 1) (m + 1) (l.take j) = some n
  pass : PassAt wr gm gn n no
  row : wr.ownsRow (w.heap.size + 1) 4 1 (.slice A j c) j ((meanFL own beside (l.take j)).map Value.bool)
  keep : Keeps [gm] w wr
  siz : w.heap.size + 1 ≤ wr.heap.size
theorem ThrBS.step {own beside : List Att} {w wr w6 w7 w8 : World} {gm gn : Nat} {no : Int} {d m : Nat} {l : List FV} {j : Nat} {A A8 : Option Addr} {c c8 : Nat} {n n' : Nat} (H : ThrBS own beside w wr gm gn no d m l j A c n) (hgm : gm < w.heap.size) (hgn : gn < w.heap.size)
    {t : FV} (ht : l[j]? = some t) (hn : thruF aloneF (d + 1) n t = some n') (k6 : Keeps [gm] wr w6) (hp6 : PassAt w6 gm gn n' no) (k7 : Keeps [] w6 w7)
    (ho : w8.ownsRow (w.heap.size + 1) 4 1 (.slice A8 (j + 1) c8) (j + 1) ((meanFL own beside (l.take j)).map Value.bool ++ [.bool (meanF own beside t)])) (hg : w7.grownBy w8 (Value.slice A j c).ownBlock) :
    ThrBS own beside w w8 gm gn no d m l (j + 1) A8 c8 n' := by
  have k8 : Keeps (Value.slice A j c).ownBlock.toList w7 w8 := Keeps.of_grown hg (fun x hx => .inl (by rw [hx]; simp))
  have hvl : ∀ x ∈ (Value.slice A j c).ownBlock.toList, w.heap.size + 1 ≤ x ∧ x < wr.heap.size := fun x hx => H.row.lt x (by simpa using hx)
  have k68 : Keeps (Value.slice A j c).ownBlock.toList w6 w8 := (k7.mono (by simp)).trans k8 (fun x hx => .inl hx)
  have kr8 : Keeps (gm :: (Value.slice A j c).ownBlock.toList) wr w8 := (k6.mono (cs := gm :: (Value.slice A j c).ownBlock.toList) (by simp)).trans k68 (fun x hx => .inl (List.mem_cons_of_mem _ hx))
  have htk : l.take (j + 1) = l.take j ++ [t] := by rw [List.take_add_one, ht]; rfl
  refine ⟨by rw [htk, thruL_snoc, H.cnt]; exact hn, hp6.keep k68 (fun hm => by have := (hvl gm hm).1; omega) (fun hm => by have := (hvl gn hm).1; omega), by rw [htk, meanFL_map, List.map_append, List.map_append, ← meanFL_map]; exact ho, H.keep.trans kr8 (fun x hx => ?_), by have := H.siz; have := kr8.size; omega⟩
  simp only [List.mem_cons] at hx
  rcases hx with hx | hx
  · exact .inl (by simp [hx])
  · exact .inr (by have := (hvl x hx).1; omega)
theorem boxes_onb {w wr w7 w8 : World} {gm n c j : Nat} {A : Option Addr} {xs : List Value} {o : Obj} {b : Nat} {e : TypeId} {sz : Nat} (hr : wr.ownsRow (w.heap.size + 1) e sz (.slice A j c) n xs) (k : Keeps [gm] wr w7) (hg : w7.grownBy w8 (Value.slice A j c).ownBlock) (hb : b < w.heap.size + 1) (hne : b ≠ gm) (h : wr.heap[b]? = some o) : w8.heap[b]? = some o :=
  blk_keep (blk_keep h k (by simpa using hne)) (Keeps.of_grown (bs := (Value.slice A j c).ownBlock.toList) hg (fun x hx => .inl (by rw [hx]; simp))) (fun hm => by have := (hr.lt b (by simpa using hm)).1; omega)
/-- How isMeant's through ends. -/
def ThrBQ (own beside : List Att) (no : Int) (n : Nat) (t : FV) (gm gn : Nat) (w : World) (e : Ending) (w' : World) : Prop := e = .returned (.bool (meanF own beside t)) ∧ PassAt w' gm gn n no ∧ Keeps [gm] w w'
set_option maxHeartbeats 16000000 in
theorem thrB_is (gp gx gw gm gn gs : Nat) (no : Int) (w0 : World) (S : SubV) (lo lb' : List At7) (hgm0 : w0.heap.size ≤ gm) (hgsm : gs ≠ gm) (hgs : w0.heap[gs]? = some (.cells #[.slice S.A S.n S.c, .slice S.B S.m S.d] 110 (0, 0))) (hS : SubOk w0 S lo lb') : ∀ (t : FV) (d m nn : Nat) (h : FH) (w : World), d ≤ 17 → m ≤ 200 → FilAt w0 t h → Keeps [] w0 w →
    EnvF gp gx gw gm gn 192 (.func (.func 128) #[] #[.pointer (some ⟨gs, 0, none⟩)]) w → PassAt w gm gn m no → thruF aloneF d m t = some nn →
    Calls Tryz.prog 192 #[h.val, .int .i64 (d : Int), .pointer (some ⟨gp, 0, none⟩), .pointer (some ⟨gx, 0, none⟩), .pointer (some ⟨gw, 0, none⟩)] w (ThrBQ (ents lo) (ents lb') no nn t gm gn w) := by
  obtain ⟨iu, hiu, hzu0, hzu1, hzu2⟩ := info_parts bool_info8
  intro t
  induction t using FV.ind with
  | h k l s v ih =>
    intro d m nn h w hd hm ht hk0 hE hP hthr
    have IH := Lib.hid ih
    have hgmw := lt_of_heap hP.many
    have hgnw := lt_of_heap hP.no
    obtain ⟨hC1, hC2, hC3, _⟩ := thruF_le aloneF _ _ _ _ hthr
    rw [thrF_in ⟨hC2, hC3⟩] at hthr
    obtain ⟨n9, hn9, hal9⟩ : ∃ n9, thruL aloneF (d + 1) (m + 1) l = some n9 ∧ aloneF (.mk k l s v) = true ∧ n9 = nn := by
      cases hq : thruL aloneF (d + 1) (m + 1) l with
      | none => rw [hq] at hthr; cases hthr
      | some n9 =>
        rw [hq] at hthr
        dsimp only at hthr
        split at hthr
        · rename_i ha
          injection hthr with hthr
          exact ⟨n9, rfl, ha, hthr⟩
        · cases hthr
    obtain ⟨hal, rfl⟩ := hal9
    rw [aloneF_is] at hal
    have HPS := Lib.hid (fun X hX => pass8_is d gm gn m no X (by omega) (by omega) hX)
    obtain ⟨rfl, rfl, rfl, h4, h5, h6, h7, h8, h9, h10, h11⟩ := ht
    obtain ⟨k, B, lb, cb, s, v⟩ := h
    have hl : l.length = lb := h8
    have hlb : lb ≤ 9223372036854775807 := Nat.le_trans h9 h10
    dsimp only at h6 h7 hal
    rw [hl] at hal
    have HAL := Lib.hid (alone_kinds hal)
    have HSL : Hid (s.length ≤ 9223372036854775807 ∧ v.length ≤ 9223372036854775807) := ⟨h6, h7⟩
    have HTH := Lib.hid hn9
    have HI := Lib.hid h11
    have HL := Lib.hid hl
    have HK0 := Lib.hid hk0
    have HE := Lib.hid hE
    have HP := Lib.hid hP
    have HB1 := Lib.hid (heap_new8 w (.cells #[.int .i64 k, .slice B lb cb, .string ⟨s.toArray⟩, .string ⟨v.toArray⟩] 26))
    have HKB : Hid (Keeps [] w (w.alloc (.cells #[.int .i64 k, .slice B lb cb, .string ⟨s.toArray⟩, .string ⟨v.toArray⟩] 26))) := (Keeps.refl [] w).alloc _
    have HZ : Hid (w.heap.size + 1 ≤ (w.alloc (.cells #[.int .i64 k, .slice B lb cb, .string ⟨s.toArray⟩, .string ⟨v.toArray⟩] 26)).heap.size) := by show _ ≤ _; simp
    clear h4 h5 h6 h7 h8 h9 h10 h11 hl hk0 hE hP ih hal hn9 hthr
    unfold FH.val tv
    dsimp only
    have HEW := HE.out.keep (HKB.out.mono (cs := [gm]) (by simp))
    obtain ⟨e1, e2, e3, _, _, _⟩ := HEW
    go_enter Tryz.func192, Tryz.ntmps192
    go_wp2_with fail
    have HP1 := Lib.hid (HP.out.keep HKB.out (by simp) (by simp))
    generalize w.alloc (.cells #[.int .i64 k, .slice B lb cb, .string ⟨s.toArray⟩, .string ⟨v.toArray⟩] 26) = W1 at HKB HB1 HZ HP1 e1 e2 e3 ⊢
    refine (HPS.out W1 HP1.out).mono ?_
    rintro e w2 ⟨⟨hc, rfl⟩ | ⟨hc, rfl⟩, hp2, hk2⟩
    rotate_left
    · exact absurd ⟨hC2, hC3⟩ hc
    · have HK2 := Lib.hid ((HKB.out.mono (cs := [gm]) (by simp)).trans' hk2)
      have HB3 := Lib.hid (blk_keep HB1.out hk2 (by simp; omega))
      have HS0 : Hid (ThrBS (ents lo) (ents lb') w w2 gm gn no d m l 0 none 0 (m + 1)) := ⟨by simp [thruL], hp2, by simpa [meanFL] using World.ownsRow_nil w2 (w.heap.size + 1) 4 1, HK2.out, Nat.le_trans HZ.out hk2.size⟩
      obtain ⟨⟨z0, z1, z2, z3⟩, _⟩ := four_facts8 HB3.out
      clear hc hk2 hp2 e1 e2 e3
      go_wp2_with fail
      go_loopw [8, 17] (fun a i wr => ∃ (A : Option Addr) (j c n : Nat), a = .slice A j c ∧ i = .int .i64 (j : Int) ∧ j ≤ lb ∧ Hid (ThrBS (ents lo) (ents lb') w wr gm gn no d m l j A c n) ∧ Hid (wr.heap[w.heap.size]? = some (.cells #[.int .i64 k, .slice B lb cb, .string ⟨s.toArray⟩, .string ⟨v.toArray⟩] 26 (0, 0)))) (fun _ i _ => lb - (intOf i).toNat)
      case atStart => exact ⟨none, 0, 0, m + 1, rfl, rfl, Nat.zero_le _, HS0.out, HB3.out⟩
      clear z0 z1 z2 z3
      case round =>
        obtain ⟨A, j, c, n, rfl, rfl, hj, HS, HBX⟩ := hrel
        have hn200 := (thruL_le aloneF _ _ _ _ HS.out.cnt).2 (by omega)
        have hjn : j ≤ 200 := by
          have h8 := (thruL_le aloneF _ _ _ _ HS.out.cnt).1
          rw [List.length_take, HL.out, Nat.min_eq_left hj] at h8
          omega
        have HKW : Hid (Keeps [] w0 wr) := HK0.out.trans HS.out.keep (fun x hx => .inr (by rw [List.mem_singleton.1 hx]; exact hgm0))
        have hgr := lt_of_heap HS.out.pass.many
        by_cases hlt : j < lb
        · have hx : l[j]? = some (l[j]'(by have := HL.out; omega)) := List.getElem?_eq_getElem _
          obtain ⟨b9, o1, hh, rfl, hc0, hat⟩ := HI.out.at_ j _ hx
          rw [Nat.zero_add] at hc0
          have hc9 : ∀ q u, (FH.list hh)[q]? = some u → wr.cell? ⟨b9, o1 + j * 4 + q, none⟩ = some u := fun q u hu => (HKW.out.cell (lt_of_cell (hc0 q u hu)) (by simp)).trans (hc0 q u hu)
          obtain ⟨g0, g1, g2', g3⟩ := four_at hc9
          have hmem : (l[j]'(by have := HL.out; omega)) ∈ l := List.getElem_mem _
          generalize hxx : l[j]'(by have := HL.out; omega) = x at *
          obtain ⟨k', B', lb'', cb', s', v'⟩ := hh
          have HXX := Lib.hid hx
          obtain ⟨n2, hn2⟩ : ∃ n2, thruF aloneF (d + 1) n x = some n2 := by
            cases hq : thruF aloneF (d + 1) n x with
            | some n2 => exact ⟨n2, rfl⟩
            | none =>
              have h8 : thruL aloneF (d + 1) (m + 1) (l.take (j + 1)) = none := by
                rw [List.take_add_one, hx]
                show thruL _ _ _ (l.take j ++ [x]) = none
                rw [thruL_snoc, HS.out.cnt]
                exact hq
              have h7 := thruL_none aloneF (d + 1) (l.take (j + 1)) (l.drop (j + 1)) (m + 1) h8
              rw [List.take_append_drop, HTH.out] at h7
              cases h7
          have HN2 := Lib.hid hn2
          have HREC : Hid (∀ X, Keeps [] wr X → Calls Tryz.prog 192 #[.agg #[.int .i64 k', .slice B' lb'' cb', .string ⟨s'.toArray⟩, .string ⟨v'.toArray⟩], .int .i64 ((d : Int) + 1), .pointer (some ⟨gp, 0, none⟩), .pointer (some ⟨gx, 0, none⟩), .pointer (some ⟨gw, 0, none⟩)] X (ThrBQ (ents lo) (ents lb') no n2 x gm gn X)) := fun X hX => by
            have h9 := IH.out x hmem (d + 1) n n2 ⟨k', B', lb'', cb', s', v'⟩ X (by omega) hn200 hat (HKW.out.trans' hX) (HE.out.keep (HS.out.keep.trans hX (by simp))) (HS.out.pass.keep hX (by simp) (by simp)) hn2
            rw [show ((d + 1 : Nat) : Int) = (d : Int) + 1 by omega] at h9
            exact h9
          obtain ⟨e1, e2, e3, _, _, _⟩ := HE.out.keep (HS.out.keep.trans ((Keeps.refl [] wr).alloc (.cells #[.int .i64 k', .slice B' lb'' cb', .string ⟨s'.toArray⟩, .string ⟨v'.toArray⟩] 26)) (by simp))
          have hw : IntKind.i64.wrap ((d : Int) + 1) = ((d : Int) + 1) := IntWalk.i64_in _ (by omega)
          have hji : (j : Int) < (lb : Int) := by omega
          have hj0 : (0 : Int) ≤ (j : Int) := by omega
          clear hx hat hc0 hc9 hxx hmem hn2
          go_wp2_with fail
          refine (HREC.out _ ((Keeps.refl [] wr).alloc _)).mono ?_
          rintro e w6 ⟨rfl, hp6, hk6⟩
          have HP6 := Lib.hid hp6
          have HK6 : Hid (Keeps [gm] wr w6) := (((Keeps.refl [] wr).alloc (.cells #[.int .i64 k', .slice B' lb'' cb', .string ⟨s'.toArray⟩, .string ⟨v'.toArray⟩] 26)).mono (cs := [gm]) (by simp)).trans' hk6
          obtain ⟨q, hq⟩ : ∃ q, meanF (ents lo) (ents lb') x = q := ⟨_, rfl⟩
          rw [hq]
          have HQ := Lib.hid hq
          have HK7 : Hid (Keeps [gm] wr (w6.alloc (.cells #[.bool q] 4))) := HK6.out.alloc _
          have HROW : Hid ((w6.alloc (.cells #[.bool q] 4)).ownsRow (w.heap.size + 1) 4 1 (.slice A j c) j ((meanFL (ents lo) (ents lb') (l.take j)).map Value.bool)) := own_keep HS.out.row HK7.out (fun b hb hm => by have := (HS.out.row.lt b hb).1; simp at hm; omega)
          have HSZ : Hid (w.heap.size + 1 ≤ (w6.alloc (.cells #[.bool q] 4)).heap.size) := Nat.le_trans HS.out.siz HK7.out.size
          clear hp6 hk6 hq g0 g1 g2' g3 e1 e2 e3
          go_wp2_with (at_builtin; refine wpList_append_opt rfl (.tmp 21) (.tmp 27) 161 rfl (w.heap.size + 1) 4 iu _ 1 1 Tryz.underlying161 hiu hzu0 hzu1 hzu2 rfl (by decide) (.slice A j c) j ((meanFL (ents lo) (ents lb') (l.take j)).map Value.bool) rfl HROW.out (some ⟨w6.heap.size, 0, none⟩) 1 1 [.bool q] rfl rfl (src_oneb w6 q _) (by intro u hu; simp at hu; rcases hu with rfl; rfl) (by unfold maxLen; omega) (by omega) HSZ.out ?_; intro v8 w8 ho hg8 hs8; obtain ⟨A8, c8, hv8⟩ := own_slice ho; subst hv8; have HY := Lib.hid (HS.out.step hgmw hgnw HXX.out HN2.out HK6.out HP6.out ((Keeps.refl [] w6).alloc _) (by rw [HQ.out]; exact ho) hg8); have HBX8 := Lib.hid (boxes_onb HS.out.row HK7.out hg8 (by omega) (by omega) HBX.out); clear ho hg8 hs8)
          go_roundw
          case rel => exact ⟨A8, j + 1, c8, n2, rfl, by go_num, by omega, HY.out, HBX8.out⟩
          case measure => simp [intOf]; omega
        · obtain rfl : j = lb := by omega
          have htl : l.take j = l := List.take_of_length_le (by rw [HL.out]; exact Nat.le_refl _)
          have hcn := HS.out.cnt
          rw [htl, HTH.out] at hcn
          injection hcn with hcn
          subst hcn
          have hrow := HS.out.row
          rw [htl] at hrow
          have hbl : (meanFL (ents lo) (ents lb') l).length = j := by rw [meanFL_map, List.length_map]; exact HL.out
          have HCS := Lib.hid (ismeantc_is gs S ⟨k, B, j, cb, s, v⟩ A j c (meanFL (ents lo) (ents lb') l) lo lb' wr (blk_keep (blk_keep (blk_keep hgs HK0.out (by simp)) HS.out.keep (by simpa using hgsm)) (Keeps.refl [] wr) (by simp)) (hS.grow HKW.out) HAL.out.1 HAL.out.2.1 (fun h3 => by have := HAL.out.2.2 h3; omega) HSL.out.1 HSL.out.2 (BoolsIn.of_own hrow hbl) (by omega))
          obtain ⟨e1, e2, e3, _, _, _⟩ := HE.out.keep HS.out.keep
          obtain ⟨⟨z0, z1, z2, z3⟩, _⟩ := four_facts8 HBX.out
          unfold FH.val tv at HCS
          dsimp only at HCS
          have HM : Hid (meanF (ents lo) (ents lb') (.mk k l s v) = meanK (ents lo) (ents lb') k s v (meanFL (ents lo) (ents lb') l)) := by show _ = _; simp [meanF]
          clear hrow hbl
          go_wp2_with fail
          refine HCS.out.mono ?_
          rintro e w3 ⟨rfl, hk3⟩
          have HK3 := Lib.hid hk3
          clear hk3 e1 e2 e3 z0 z1 z2 z3
          go_wp2_with fail
          go_ret
          exact ⟨by rw [HM.out]; rfl, HS.out.pass.keep HK3.out (by simp) (by simp), HS.out.keep.trans HK3.out (by simp)⟩
end Go.Proofs.YtbfebljahjmjfaaGreatDoor
