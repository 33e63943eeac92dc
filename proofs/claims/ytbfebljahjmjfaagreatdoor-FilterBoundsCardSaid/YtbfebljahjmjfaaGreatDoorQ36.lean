import Derived.Test.YtbfebljahjmjfaaGreatDoorQ35
import Derived.Deep.RegionHeld3
import Derived.BigQuiet
/- filter: the document's Same of any two filters; walked. -/
namespace Go.Proofs.YtbfebljahjmjfaaGreatDoor
open Go.RowKit Go.Shelf
set_option linter.unusedVariables false
set_option linter.unusedSimpArgs false
set_option maxRecDepth 100000

mutual
/-- Are two filters the same? -/
def sameF : FV → FV → Bool
 | .mk k l s v, .mk k' l' s' v' => likeH k k' s s' v v' l.length l'.length && sameFL l l'
def sameFL : List FV → List FV → Bool
 | x :: r, y :: q => sameF x y && sameFL r q
 | _, _ => true
end
theorem sameFL_append : ∀ (p q r s : List FV), p.length = r.length → sameFL (p ++ q) (r ++ s) = (sameFL p r && sameFL q s)
 | [], q, [], s, _ => by simp [sameFL]
 | x :: p, q, y :: r, s, h => by
  simp only [List.cons_append, sameFL]
  rw [sameFL_append p q r s (by simpa using h), Bool.and_assoc]
 | [], _, _ :: _, _, h => by simp at h
 | _ :: _, _, [], _, h => by simp at h
theorem sameFL_at {l l' : List FV} {j : Nat} {x y : FV} (hx : l[j]? = some x) (hy : l'[j]? = some y) :
  sameFL (l.take (j + 1)) (l'.take (j + 1)) = (sameFL (l.take j) (l'.take j) && sameF x y) := by
 have h1 : j < l.length := (List.getElem?_eq_some_iff.1 hx).1
 have h2 : j < l'.length := (List.getElem?_eq_some_iff.1 hy).1
 have e1 : l.take (j + 1) = l.take j ++ [x] := by rw [List.take_add_one, hx]; rfl
 have e2 : l'.take (j + 1) = l'.take j ++ [y] := by rw [List.take_add_one, hy]; rfl
 rw [e1, e2, sameFL_append _ _ _ _ (by simp; omega)]
 simp [sameFL]
theorem sameFL_cut {l l' : List FV} {j : Nat} {x y : FV} (hx : l[j]? = some x) (hy : l'[j]? = some y) (hn : sameF x y = false) (hl : l.length = l'.length) : sameFL l l' = false := by
 have h1 := sameFL_at hx hy
 rw [hn, Bool.and_false] at h1
 have h2 := sameFL_append (l.take (j + 1)) (l.drop (j + 1)) (l'.take (j + 1)) (l'.drop (j + 1)) (by simp; omega)
 rw [List.take_append_drop, List.take_append_drop, h1, Bool.false_and] at h2
 exact h2
set_option maxHeartbeats 16000000 in
theorem rsame8_step (k : Int) (B : Option Addr) (lb cb : Nat) (s v : Txt) (k' : Int) (B' : Option Addr) (lb' cb' : Nat) (s' v' : Txt) (w : World) (hs : s.length ≤ 9223372036854775807) (hs' : s'.length ≤ 9223372036854775807) (hP : likeH k k' s s' v v' lb lb' = false) :
  Calls Tryz.prog 11 #[.agg #[.int .i64 k, .slice B lb cb, .string ⟨s.toArray⟩, .string ⟨v.toArray⟩], .agg #[.int .i64 k', .slice B' lb' cb', .string ⟨s'.toArray⟩, .string ⟨v'.toArray⟩]] w fun e w' => e = .returned (.bool false) ∧ Keeps [] w w' := by
 have HP := Lib.hid hP
 clear hP
 have HSA := Lib.hid (fun X => rsmall_is s X hs)
 have HSB := Lib.hid (fun X => rsmall_is s' X hs')
 obtain ⟨z, hz⟩ : ∃ z, smallL s = z := ⟨_, rfl⟩
 obtain ⟨z', hz'⟩ : ∃ z, smallL s' = z := ⟨_, rfl⟩
 unfold likeH at HP
 rw [hz, hz'] at HP
 rw [hz] at HSA
 rw [hz'] at HSB
 have HK0 : Hid (Keeps [] w ((w.alloc (.cells #[.int .i64 k, .slice B lb cb, .string ⟨s.toArray⟩, .string ⟨v.toArray⟩] 26)).alloc (.cells #[.int .i64 k', .slice B' lb' cb', .string ⟨s'.toArray⟩, .string ⟨v'.toArray⟩] 26))) := ((Keeps.refl [] w).alloc _).alloc _
 have hb0 := (two_boxes8 w (.cells #[.int .i64 k, .slice B lb cb, .string ⟨s.toArray⟩, .string ⟨v.toArray⟩] 26) (.cells #[.int .i64 k', .slice B' lb' cb', .string ⟨s'.toArray⟩, .string ⟨v'.toArray⟩] 26)).1
 have hb1 := (two_boxes8 w (.cells #[.int .i64 k, .slice B lb cb, .string ⟨s.toArray⟩, .string ⟨v.toArray⟩] 26) (.cells #[.int .i64 k', .slice B' lb' cb', .string ⟨s'.toArray⟩, .string ⟨v'.toArray⟩] 26)).2
 have HZ := Lib.hid (And.intro hz hz')
 obtain ⟨W0, hW0⟩ : ∃ W0, (w.alloc (.cells #[.int .i64 k, .slice B lb cb, .string ⟨s.toArray⟩, .string ⟨v.toArray⟩] 26)).alloc (.cells #[.int .i64 k', .slice B' lb' cb', .string ⟨s'.toArray⟩, .string ⟨v'.toArray⟩] 26) = W0 := ⟨_, rfl⟩
 rw [hW0] at HK0 hb0 hb1
 obtain ⟨g, hg⟩ : ∃ g, w.heap.size = g := ⟨_, rfl⟩
 rw [hg] at hb0 hb1
 obtain ⟨g2, hg2⟩ : ∃ g2, g + 1 = g2 := ⟨_, rfl⟩
 rw [hg2] at hb1
 have HF : Hid (∀ X, Keeps [] W0 X → (X.cell? ⟨g, 0, none⟩ = some (.int .i64 k) ∧ X.cell? ⟨g, 1, none⟩ = some (.slice B lb cb) ∧ X.cell? ⟨g, 2, none⟩ = some (.string ⟨s.toArray⟩) ∧ X.cell? ⟨g, 3, none⟩ = some (.string ⟨v.toArray⟩)) ∧ X.cell? ⟨g2, 0, none⟩ = some (.int .i64 k') ∧ X.cell? ⟨g2, 1, none⟩ = some (.slice B' lb' cb') ∧ X.cell? ⟨g2, 2, none⟩ = some (.string ⟨s'.toArray⟩) ∧ X.cell? ⟨g2, 3, none⟩ = some (.string ⟨v'.toArray⟩)) := fun X hX => ⟨(four_facts8 (blk_keep hb0 hX (by simp))).1, (four_facts8 (blk_keep hb1 hX (by simp))).1⟩
 have HW := Lib.hid hW0
 have HGG := Lib.hid (And.intro hg hg2)
 have HBX0 := Lib.hid hb0
 have HBY0 := Lib.hid hb1
 clear hs hs' hz hz' hb0 hb1 hW0 hg hg2
 by_cases hk : k = k'
 ·subst hk
  rw [show (k == k) = true by simp, Bool.true_and] at HP
  cases hq1 : (z == z') with
  | false =>
   have hzq : ¬ z = z' := by simpa using hq1
   clear hq1
   go_enter Tryz.func11, Tryz.ntmps11
   go_wp2_with fail
   try rw [show (w.alloc (.cells #[.int .i64 k, .slice B lb cb, .string ⟨s.toArray⟩, .string ⟨v.toArray⟩] 26)).alloc (.cells #[.int .i64 k, .slice B' lb' cb', .string ⟨s'.toArray⟩, .string ⟨v'.toArray⟩] 26) = W0 from HW.out]
   try simp only [HGG.out.1, HGG.out.2]
   refine wp_region_held_drew (S := (fun X => (X.cell? ⟨g, 0, none⟩ = some (.int .i64 k) ∧ X.cell? ⟨g, 1, none⟩ = some (.slice B lb cb) ∧ X.cell? ⟨g, 2, none⟩ = some (.string ⟨s.toArray⟩) ∧ X.cell? ⟨g, 3, none⟩ = some (.string ⟨v.toArray⟩)) ∧ X.cell? ⟨g2, 0, none⟩ = some (.int .i64 k) ∧ X.cell? ⟨g2, 1, none⟩ = some (.slice B' lb' cb') ∧ X.cell? ⟨g2, 2, none⟩ = some (.string ⟨s'.toArray⟩) ∧ X.cell? ⟨g2, 3, none⟩ = some (.string ⟨v'.toArray⟩))) (by kernel_rfl) (HF.out _ ((Keeps.refl [] W0).drew)) ?_
   intro HS
   refine wpAnyH_take (i := 0) (v := .pointer (some ⟨g, 0, none⟩)) rfl (by kernel_rfl) (by kernel_rfl) (by kernel_rfl) (fun _ _ _ h => h) (Or.inl ⟨by kernel_rfl, ?_⟩) HS ?_
   ·intro w5 hw5
    obtain ⟨⟨a0, a1, a2, a3⟩, b0, b1, b2, b3⟩ := hw5
    go_simp
   simp only [Act.put, aL]
   refine wpAnyH_take (i := 1) (v := .int .i64 k) rfl (by kernel_rfl) (by kernel_rfl) (by kernel_rfl) (fun _ _ _ h => h) (Or.inl ⟨by kernel_rfl, ?_⟩) HS ?_
   ·intro w5 hw5
    obtain ⟨⟨a0, a1, a2, a3⟩, b0, b1, b2, b3⟩ := hw5
    go_simp
   simp only [Act.put, aL]
   refine wpAnyH_take (i := 2) (v := .pointer (some ⟨g2, 0, none⟩)) rfl (by kernel_rfl) (by kernel_rfl) (by kernel_rfl) (fun _ _ _ h => h) (Or.inl ⟨by kernel_rfl, ?_⟩) HS ?_
   ·intro w5 hw5
    obtain ⟨⟨a0, a1, a2, a3⟩, b0, b1, b2, b3⟩ := hw5
    go_simp
   simp only [Act.put, aL]
   refine wpAnyH_take (i := 3) (v := .int .i64 k) rfl (by kernel_rfl) (by kernel_rfl) (by kernel_rfl) (fun _ _ _ h => h) (Or.inl ⟨by kernel_rfl, ?_⟩) HS ?_
   ·intro w5 hw5
    obtain ⟨⟨a0, a1, a2, a3⟩, b0, b1, b2, b3⟩ := hw5
    go_simp
   simp only [Act.put, aL]
   refine wpAnyH_take (i := 4) (v := .bool false) rfl (by kernel_rfl) (by kernel_rfl) (by kernel_rfl) (fun _ _ _ h => h) (Or.inl ⟨by kernel_rfl, ?_⟩) HS ?_
   ·intro w5 hw5
    obtain ⟨⟨a0, a1, a2, a3⟩, b0, b1, b2, b3⟩ := hw5
    go_simp
   simp only [Act.put, aL]
   refine wpAnyH_take (i := 5) (v := .bool false) rfl (by kernel_rfl) (by kernel_rfl) (by kernel_rfl) (fun _ _ _ h => h) (Or.inl ⟨by kernel_rfl, ?_⟩) HS ?_
   ·intro w5 hw5
    obtain ⟨⟨a0, a1, a2, a3⟩, b0, b1, b2, b3⟩ := hw5
    go_simp
   simp only [Act.put, aL]
   refine wpAnyH_take (i := 6) (v := .pointer (some ⟨g, 2, none⟩)) rfl (by kernel_rfl) (by kernel_rfl) (by kernel_rfl) (fun _ _ _ h => h) (Or.inl ⟨by kernel_rfl, ?_⟩) HS ?_
   ·intro w5 hw5
    obtain ⟨⟨a0, a1, a2, a3⟩, b0, b1, b2, b3⟩ := hw5
    go_simp
   simp only [Act.put, aL]
   refine wpAnyH_take (i := 7) (v := .string ⟨s.toArray⟩) rfl (by kernel_rfl) (by kernel_rfl) (by kernel_rfl) (fun _ _ _ h => h) (Or.inl ⟨by kernel_rfl, ?_⟩) HS ?_
   ·intro w5 hw5
    obtain ⟨⟨a0, a1, a2, a3⟩, b0, b1, b2, b3⟩ := hw5
    go_simp
   simp only [Act.put, aL]
   refine wpAnyH_take (i := 9) (v := .pointer (some ⟨g2, 2, none⟩)) rfl (by kernel_rfl) (by kernel_rfl) (by kernel_rfl) (fun _ _ _ h => h) (Or.inl ⟨by kernel_rfl, ?_⟩) HS ?_
   ·intro w5 hw5
    obtain ⟨⟨a0, a1, a2, a3⟩, b0, b1, b2, b3⟩ := hw5
    go_simp
   simp only [Act.put, aL]
   refine wpAnyH_take (i := 10) (v := .string ⟨s'.toArray⟩) rfl (by kernel_rfl) (by kernel_rfl) (by kernel_rfl) (fun _ _ _ h => h) (Or.inl ⟨by kernel_rfl, ?_⟩) HS ?_
   ·intro w5 hw5
    obtain ⟨⟨a0, a1, a2, a3⟩, b0, b1, b2, b3⟩ := hw5
    go_simp
   simp only [Act.put, aL]
   refine wpAnyH_ready (rs := [8]) (by kernel_rfl) (by simp) ?_
   refine AllReadyH.cons rfl (fun K hK => ?_) (AllReadyH.nil)
   go_simp
   refine (HSA.out _).mono ?_
   rintro e w6 ⟨rfl, hk6⟩
   have K1 : Hid (Keeps [] W0 w6) := Keeps.trans' ((Keeps.refl [] W0).drew) hk6
   clear hk6
   refine hK.out _ _ (HF.out _ K1.out) (fun HS => ?_)
   clear hK K
   try simp only [Act.put, aL]
   refine wpAnyH_ready (rs := [11]) (by kernel_rfl) (by simp) ?_
   refine AllReadyH.cons rfl (fun K hK => ?_) (AllReadyH.nil)
   go_simp
   refine (HSB.out _).mono ?_
   rintro e w6 ⟨rfl, hk6⟩
   have K2 : Hid (Keeps [] W0 w6) := Keeps.trans' K1.out hk6
   clear hk6
   refine hK.out _ _ (HF.out _ K2.out) (fun HS => ?_)
   clear hK K
   try simp only [Act.put, aL]
   refine wpAnyH_take (i := 12) (v := .bool true) rfl (by kernel_rfl) (by kernel_rfl) (by kernel_rfl) (fun _ _ _ h => h) (Or.inl ⟨by kernel_rfl, ?_⟩) HS ?_
   ·intro w5 hw5
    obtain ⟨⟨a0, a1, a2, a3⟩, b0, b1, b2, b3⟩ := hw5
    go_simp
    first | done | exact hzq
   simp only [Act.put, aL]
   refine wpAnyH_take (i := 13) (v := .bool true) rfl (by kernel_rfl) (by kernel_rfl) (by kernel_rfl) (fun _ _ _ h => h) (Or.inl ⟨by kernel_rfl, ?_⟩) HS ?_
   ·intro w5 hw5
    obtain ⟨⟨a0, a1, a2, a3⟩, b0, b1, b2, b3⟩ := hw5
    go_simp
   simp only [Act.put, aL]
   refine wpAnyH_take (i := 14) (v := .bool true) rfl (by kernel_rfl) (by kernel_rfl) (by kernel_rfl) (fun _ _ _ h => h) (Or.inl ⟨by kernel_rfl, ?_⟩) HS ?_
   ·intro w5 hw5
    obtain ⟨⟨a0, a1, a2, a3⟩, b0, b1, b2, b3⟩ := hw5
    go_simp
   simp only [Act.put, aL]
   refine wpAnyH_take (i := 15) (v := undef) rfl (by kernel_rfl) (by kernel_rfl) (by kernel_rfl) (fun _ _ _ h => h) (Or.inr ⟨by kernel_rfl, rfl⟩) HS ?_
   simp only [Act.put, aL]
   refine wpAnyH_take (i := 16) (v := undef) rfl (by kernel_rfl) (by kernel_rfl) (by kernel_rfl) (fun _ _ _ h => h) (Or.inr ⟨by kernel_rfl, rfl⟩) HS ?_
   simp only [Act.put, aL]
   refine wpAnyH_take (i := 17) (v := undef) rfl (by kernel_rfl) (by kernel_rfl) (by kernel_rfl) (fun _ _ _ h => h) (Or.inr ⟨by kernel_rfl, rfl⟩) HS ?_
   simp only [Act.put, aL]
   refine wpAnyH_take (i := 18) (v := undef) rfl (by kernel_rfl) (by kernel_rfl) (by kernel_rfl) (fun _ _ _ h => h) (Or.inr ⟨by kernel_rfl, rfl⟩) HS ?_
   simp only [Act.put, aL]
   refine wpAnyH_take (i := 19) (v := undef) rfl (by kernel_rfl) (by kernel_rfl) (by kernel_rfl) (fun _ _ _ h => h) (Or.inr ⟨by kernel_rfl, rfl⟩) HS ?_
   simp only [Act.put, aL]
   refine wpAnyH_take (i := 20) (v := .bool true) rfl (by kernel_rfl) (by kernel_rfl) (by kernel_rfl) (fun _ _ _ h => h) (Or.inl ⟨by kernel_rfl, ?_⟩) HS ?_
   ·intro w5 hw5
    obtain ⟨⟨a0, a1, a2, a3⟩, b0, b1, b2, b3⟩ := hw5
    go_simp
   simp only [Act.put, aL]
   refine wpAnyH_take (i := 21) (v := .bool true) rfl (by kernel_rfl) (by kernel_rfl) (by kernel_rfl) (fun _ _ _ h => h) (Or.inl ⟨by kernel_rfl, ?_⟩) HS ?_
   ·intro w5 hw5
    obtain ⟨⟨a0, a1, a2, a3⟩, b0, b1, b2, b3⟩ := hw5
    go_simp
   simp only [Act.put, aL]
   refine wpAnyH_take (i := 22) (v := undef) rfl (by kernel_rfl) (by kernel_rfl) (by kernel_rfl) (fun _ _ _ h => h) (Or.inr ⟨by kernel_rfl, rfl⟩) HS ?_
   simp only [Act.put, aL]
   refine wpAnyH_take (i := 23) (v := undef) rfl (by kernel_rfl) (by kernel_rfl) (by kernel_rfl) (fun _ _ _ h => h) (Or.inr ⟨by kernel_rfl, rfl⟩) HS ?_
   simp only [Act.put, aL]
   refine wpAnyH_take (i := 24) (v := undef) rfl (by kernel_rfl) (by kernel_rfl) (by kernel_rfl) (fun _ _ _ h => h) (Or.inr ⟨by kernel_rfl, rfl⟩) HS ?_
   simp only [Act.put, aL]
   refine wpAnyH_take (i := 25) (v := undef) rfl (by kernel_rfl) (by kernel_rfl) (by kernel_rfl) (fun _ _ _ h => h) (Or.inr ⟨by kernel_rfl, rfl⟩) HS ?_
   simp only [Act.put, aL]
   refine wpAnyH_take (i := 26) (v := undef) rfl (by kernel_rfl) (by kernel_rfl) (by kernel_rfl) (fun _ _ _ h => h) (Or.inr ⟨by kernel_rfl, rfl⟩) HS ?_
   simp only [Act.put, aL]
   refine wpAnyH_take (i := 27) (v := undef) rfl (by kernel_rfl) (by kernel_rfl) (by kernel_rfl) (fun _ _ _ h => h) (Or.inr ⟨by kernel_rfl, rfl⟩) HS ?_
   simp only [Act.put, aL]
   refine wpAnyH_take (i := 28) (v := undef) rfl (by kernel_rfl) (by kernel_rfl) (by kernel_rfl) (fun _ _ _ h => h) (Or.inr ⟨by kernel_rfl, rfl⟩) HS ?_
   simp only [Act.put, aL]
   refine wpAnyH_take (i := 29) (v := .bool true) rfl (by kernel_rfl) (by kernel_rfl) (by kernel_rfl) (fun _ _ _ h => h) (Or.inl ⟨by kernel_rfl, ?_⟩) HS ?_
   ·intro w5 hw5
    obtain ⟨⟨a0, a1, a2, a3⟩, b0, b1, b2, b3⟩ := hw5
    go_simp
   simp only [Act.put, aL]
   refine wpAnyH_done (by kernel_rfl) ?_ _
   go_wp2_with fail
   go_ret
   exact ⟨rfl, HK0.out.trans' K2.out⟩
  | true =>
   have hzq : z = z' := by simpa using hq1
   rw [hq1, Bool.true_and] at HP
   clear hq1
   by_cases hv : v = v'
   ·subst hv
    rw [show (v == v) = true by simp, Bool.true_and] at HP
    by_cases hn : lb = lb'
    ·subst hn
     exact absurd HP.out (by simp)
    ·have hni : ¬ (lb : Int) = (lb' : Int) := by omega
     have hnb : ((lb : Int) == (lb' : Int)) = false := by simpa using hni
     clear hn
     go_enter Tryz.func11, Tryz.ntmps11
     go_wp2_with fail
     try rw [show (w.alloc (.cells #[.int .i64 k, .slice B lb cb, .string ⟨s.toArray⟩, .string ⟨v.toArray⟩] 26)).alloc (.cells #[.int .i64 k, .slice B' lb' cb', .string ⟨s'.toArray⟩, .string ⟨v.toArray⟩] 26) = W0 from HW.out]
     try simp only [HGG.out.1, HGG.out.2]
     refine wp_region_held_drew (S := (fun X => (X.cell? ⟨g, 0, none⟩ = some (.int .i64 k) ∧ X.cell? ⟨g, 1, none⟩ = some (.slice B lb cb) ∧ X.cell? ⟨g, 2, none⟩ = some (.string ⟨s.toArray⟩) ∧ X.cell? ⟨g, 3, none⟩ = some (.string ⟨v.toArray⟩)) ∧ X.cell? ⟨g2, 0, none⟩ = some (.int .i64 k) ∧ X.cell? ⟨g2, 1, none⟩ = some (.slice B' lb' cb') ∧ X.cell? ⟨g2, 2, none⟩ = some (.string ⟨s'.toArray⟩) ∧ X.cell? ⟨g2, 3, none⟩ = some (.string ⟨v.toArray⟩))) (by kernel_rfl) (HF.out _ ((Keeps.refl [] W0).drew)) ?_
     intro HS
     refine wpAnyH_take (i := 0) (v := .pointer (some ⟨g, 0, none⟩)) rfl (by kernel_rfl) (by kernel_rfl) (by kernel_rfl) (fun _ _ _ h => h) (Or.inl ⟨by kernel_rfl, ?_⟩) HS ?_
     ·intro w5 hw5
      obtain ⟨⟨a0, a1, a2, a3⟩, b0, b1, b2, b3⟩ := hw5
      go_simp
     simp only [Act.put, aL]
     refine wpAnyH_take (i := 1) (v := .int .i64 k) rfl (by kernel_rfl) (by kernel_rfl) (by kernel_rfl) (fun _ _ _ h => h) (Or.inl ⟨by kernel_rfl, ?_⟩) HS ?_
     ·intro w5 hw5
      obtain ⟨⟨a0, a1, a2, a3⟩, b0, b1, b2, b3⟩ := hw5
      go_simp
     simp only [Act.put, aL]
     refine wpAnyH_take (i := 2) (v := .pointer (some ⟨g2, 0, none⟩)) rfl (by kernel_rfl) (by kernel_rfl) (by kernel_rfl) (fun _ _ _ h => h) (Or.inl ⟨by kernel_rfl, ?_⟩) HS ?_
     ·intro w5 hw5
      obtain ⟨⟨a0, a1, a2, a3⟩, b0, b1, b2, b3⟩ := hw5
      go_simp
     simp only [Act.put, aL]
     refine wpAnyH_take (i := 3) (v := .int .i64 k) rfl (by kernel_rfl) (by kernel_rfl) (by kernel_rfl) (fun _ _ _ h => h) (Or.inl ⟨by kernel_rfl, ?_⟩) HS ?_
     ·intro w5 hw5
      obtain ⟨⟨a0, a1, a2, a3⟩, b0, b1, b2, b3⟩ := hw5
      go_simp
     simp only [Act.put, aL]
     refine wpAnyH_take (i := 4) (v := .bool false) rfl (by kernel_rfl) (by kernel_rfl) (by kernel_rfl) (fun _ _ _ h => h) (Or.inl ⟨by kernel_rfl, ?_⟩) HS ?_
     ·intro w5 hw5
      obtain ⟨⟨a0, a1, a2, a3⟩, b0, b1, b2, b3⟩ := hw5
      go_simp
     simp only [Act.put, aL]
     refine wpAnyH_take (i := 5) (v := .bool false) rfl (by kernel_rfl) (by kernel_rfl) (by kernel_rfl) (fun _ _ _ h => h) (Or.inl ⟨by kernel_rfl, ?_⟩) HS ?_
     ·intro w5 hw5
      obtain ⟨⟨a0, a1, a2, a3⟩, b0, b1, b2, b3⟩ := hw5
      go_simp
     simp only [Act.put, aL]
     refine wpAnyH_take (i := 6) (v := .pointer (some ⟨g, 2, none⟩)) rfl (by kernel_rfl) (by kernel_rfl) (by kernel_rfl) (fun _ _ _ h => h) (Or.inl ⟨by kernel_rfl, ?_⟩) HS ?_
     ·intro w5 hw5
      obtain ⟨⟨a0, a1, a2, a3⟩, b0, b1, b2, b3⟩ := hw5
      go_simp
     simp only [Act.put, aL]
     refine wpAnyH_take (i := 7) (v := .string ⟨s.toArray⟩) rfl (by kernel_rfl) (by kernel_rfl) (by kernel_rfl) (fun _ _ _ h => h) (Or.inl ⟨by kernel_rfl, ?_⟩) HS ?_
     ·intro w5 hw5
      obtain ⟨⟨a0, a1, a2, a3⟩, b0, b1, b2, b3⟩ := hw5
      go_simp
     simp only [Act.put, aL]
     refine wpAnyH_take (i := 9) (v := .pointer (some ⟨g2, 2, none⟩)) rfl (by kernel_rfl) (by kernel_rfl) (by kernel_rfl) (fun _ _ _ h => h) (Or.inl ⟨by kernel_rfl, ?_⟩) HS ?_
     ·intro w5 hw5
      obtain ⟨⟨a0, a1, a2, a3⟩, b0, b1, b2, b3⟩ := hw5
      go_simp
     simp only [Act.put, aL]
     refine wpAnyH_take (i := 10) (v := .string ⟨s'.toArray⟩) rfl (by kernel_rfl) (by kernel_rfl) (by kernel_rfl) (fun _ _ _ h => h) (Or.inl ⟨by kernel_rfl, ?_⟩) HS ?_
     ·intro w5 hw5
      obtain ⟨⟨a0, a1, a2, a3⟩, b0, b1, b2, b3⟩ := hw5
      go_simp
     simp only [Act.put, aL]
     refine wpAnyH_ready (rs := [8]) (by kernel_rfl) (by simp) ?_
     refine AllReadyH.cons rfl (fun K hK => ?_) (AllReadyH.nil)
     go_simp
     refine (HSA.out _).mono ?_
     rintro e w6 ⟨rfl, hk6⟩
     have K1 : Hid (Keeps [] W0 w6) := Keeps.trans' ((Keeps.refl [] W0).drew) hk6
     clear hk6
     refine hK.out _ _ (HF.out _ K1.out) (fun HS => ?_)
     clear hK K
     try simp only [Act.put, aL]
     refine wpAnyH_ready (rs := [11]) (by kernel_rfl) (by simp) ?_
     refine AllReadyH.cons rfl (fun K hK => ?_) (AllReadyH.nil)
     go_simp
     refine (HSB.out _).mono ?_
     rintro e w6 ⟨rfl, hk6⟩
     have K2 : Hid (Keeps [] W0 w6) := Keeps.trans' K1.out hk6
     clear hk6
     refine hK.out _ _ (HF.out _ K2.out) (fun HS => ?_)
     clear hK K
     try simp only [Act.put, aL]
     refine wpAnyH_take (i := 12) (v := .bool false) rfl (by kernel_rfl) (by kernel_rfl) (by kernel_rfl) (fun _ _ _ h => h) (Or.inl ⟨by kernel_rfl, ?_⟩) HS ?_
     ·intro w5 hw5
      obtain ⟨⟨a0, a1, a2, a3⟩, b0, b1, b2, b3⟩ := hw5
      go_simp
      first | done | exact hzq
     simp only [Act.put, aL]
     refine wpAnyH_take (i := 13) (v := .bool false) rfl (by kernel_rfl) (by kernel_rfl) (by kernel_rfl) (fun _ _ _ h => h) (Or.inl ⟨by kernel_rfl, ?_⟩) HS ?_
     ·intro w5 hw5
      obtain ⟨⟨a0, a1, a2, a3⟩, b0, b1, b2, b3⟩ := hw5
      go_simp
     simp only [Act.put, aL]
     refine wpAnyH_take (i := 14) (v := .bool false) rfl (by kernel_rfl) (by kernel_rfl) (by kernel_rfl) (fun _ _ _ h => h) (Or.inl ⟨by kernel_rfl, ?_⟩) HS ?_
     ·intro w5 hw5
      obtain ⟨⟨a0, a1, a2, a3⟩, b0, b1, b2, b3⟩ := hw5
      go_simp
     simp only [Act.put, aL]
     refine wpAnyH_take (i := 15) (v := .pointer (some ⟨g, 3, none⟩)) rfl (by kernel_rfl) (by kernel_rfl) (by kernel_rfl) (fun _ _ _ h => h) (Or.inl ⟨by kernel_rfl, ?_⟩) HS ?_
     ·intro w5 hw5
      obtain ⟨⟨a0, a1, a2, a3⟩, b0, b1, b2, b3⟩ := hw5
      go_simp
     simp only [Act.put, aL]
     refine wpAnyH_take (i := 16) (v := .string ⟨v.toArray⟩) rfl (by kernel_rfl) (by kernel_rfl) (by kernel_rfl) (fun _ _ _ h => h) (Or.inl ⟨by kernel_rfl, ?_⟩) HS ?_
     ·intro w5 hw5
      obtain ⟨⟨a0, a1, a2, a3⟩, b0, b1, b2, b3⟩ := hw5
      go_simp
     simp only [Act.put, aL]
     refine wpAnyH_take (i := 17) (v := .pointer (some ⟨g2, 3, none⟩)) rfl (by kernel_rfl) (by kernel_rfl) (by kernel_rfl) (fun _ _ _ h => h) (Or.inl ⟨by kernel_rfl, ?_⟩) HS ?_
     ·intro w5 hw5
      obtain ⟨⟨a0, a1, a2, a3⟩, b0, b1, b2, b3⟩ := hw5
      go_simp
     simp only [Act.put, aL]
     refine wpAnyH_take (i := 18) (v := .string ⟨v.toArray⟩) rfl (by kernel_rfl) (by kernel_rfl) (by kernel_rfl) (fun _ _ _ h => h) (Or.inl ⟨by kernel_rfl, ?_⟩) HS ?_
     ·intro w5 hw5
      obtain ⟨⟨a0, a1, a2, a3⟩, b0, b1, b2, b3⟩ := hw5
      go_simp
     simp only [Act.put, aL]
     refine wpAnyH_take (i := 19) (v := .bool false) rfl (by kernel_rfl) (by kernel_rfl) (by kernel_rfl) (fun _ _ _ h => h) (Or.inl ⟨by kernel_rfl, ?_⟩) HS ?_
     ·intro w5 hw5
      obtain ⟨⟨a0, a1, a2, a3⟩, b0, b1, b2, b3⟩ := hw5
      go_simp
      first | done | exact hvq
     simp only [Act.put, aL]
     refine wpAnyH_take (i := 20) (v := .bool false) rfl (by kernel_rfl) (by kernel_rfl) (by kernel_rfl) (fun _ _ _ h => h) (Or.inl ⟨by kernel_rfl, ?_⟩) HS ?_
     ·intro w5 hw5
      obtain ⟨⟨a0, a1, a2, a3⟩, b0, b1, b2, b3⟩ := hw5
      go_simp
     simp only [Act.put, aL]
     refine wpAnyH_take (i := 21) (v := .bool false) rfl (by kernel_rfl) (by kernel_rfl) (by kernel_rfl) (fun _ _ _ h => h) (Or.inl ⟨by kernel_rfl, ?_⟩) HS ?_
     ·intro w5 hw5
      obtain ⟨⟨a0, a1, a2, a3⟩, b0, b1, b2, b3⟩ := hw5
      go_simp
     simp only [Act.put, aL]
     refine wpAnyH_take (i := 22) (v := .pointer (some ⟨g, 1, none⟩)) rfl (by kernel_rfl) (by kernel_rfl) (by kernel_rfl) (fun _ _ _ h => h) (Or.inl ⟨by kernel_rfl, ?_⟩) HS ?_
     ·intro w5 hw5
      obtain ⟨⟨a0, a1, a2, a3⟩, b0, b1, b2, b3⟩ := hw5
      go_simp
     simp only [Act.put, aL]
     refine wpAnyH_take (i := 23) (v := .slice B lb cb) rfl (by kernel_rfl) (by kernel_rfl) (by kernel_rfl) (fun _ _ _ h => h) (Or.inl ⟨by kernel_rfl, ?_⟩) HS ?_
     ·intro w5 hw5
      obtain ⟨⟨a0, a1, a2, a3⟩, b0, b1, b2, b3⟩ := hw5
      go_simp
     simp only [Act.put, aL]
     refine wpAnyH_take (i := 24) (v := .int .i64 (lb : Int)) rfl (by kernel_rfl) (by kernel_rfl) (by kernel_rfl) (fun _ _ _ h => h) (Or.inl ⟨by kernel_rfl, ?_⟩) HS ?_
     ·intro w5 hw5
      obtain ⟨⟨a0, a1, a2, a3⟩, b0, b1, b2, b3⟩ := hw5
      go_simp
     simp only [Act.put, aL]
     refine wpAnyH_take (i := 25) (v := .pointer (some ⟨g2, 1, none⟩)) rfl (by kernel_rfl) (by kernel_rfl) (by kernel_rfl) (fun _ _ _ h => h) (Or.inl ⟨by kernel_rfl, ?_⟩) HS ?_
     ·intro w5 hw5
      obtain ⟨⟨a0, a1, a2, a3⟩, b0, b1, b2, b3⟩ := hw5
      go_simp
     simp only [Act.put, aL]
     refine wpAnyH_take (i := 26) (v := .slice B' lb' cb') rfl (by kernel_rfl) (by kernel_rfl) (by kernel_rfl) (fun _ _ _ h => h) (Or.inl ⟨by kernel_rfl, ?_⟩) HS ?_
     ·intro w5 hw5
      obtain ⟨⟨a0, a1, a2, a3⟩, b0, b1, b2, b3⟩ := hw5
      go_simp
     simp only [Act.put, aL]
     refine wpAnyH_take (i := 27) (v := .int .i64 (lb' : Int)) rfl (by kernel_rfl) (by kernel_rfl) (by kernel_rfl) (fun _ _ _ h => h) (Or.inl ⟨by kernel_rfl, ?_⟩) HS ?_
     ·intro w5 hw5
      obtain ⟨⟨a0, a1, a2, a3⟩, b0, b1, b2, b3⟩ := hw5
      go_simp
     simp only [Act.put, aL]
     refine wpAnyH_take (i := 28) (v := .bool true) rfl (by kernel_rfl) (by kernel_rfl) (by kernel_rfl) (fun _ _ _ h => h) (Or.inl ⟨by kernel_rfl, ?_⟩) HS ?_
     ·intro w5 hw5
      obtain ⟨⟨a0, a1, a2, a3⟩, b0, b1, b2, b3⟩ := hw5
      go_simp
     simp only [Act.put, aL]
     refine wpAnyH_take (i := 29) (v := .bool true) rfl (by kernel_rfl) (by kernel_rfl) (by kernel_rfl) (fun _ _ _ h => h) (Or.inl ⟨by kernel_rfl, ?_⟩) HS ?_
     ·intro w5 hw5
      obtain ⟨⟨a0, a1, a2, a3⟩, b0, b1, b2, b3⟩ := hw5
      go_simp
     simp only [Act.put, aL]
     refine wpAnyH_done (by kernel_rfl) ?_ _
     go_wp2_with fail
     go_ret
     exact ⟨rfl, HK0.out.trans' K2.out⟩
   ·have hvq : ¬ v = v' := hv
    go_enter Tryz.func11, Tryz.ntmps11
    go_wp2_with fail
    try rw [show (w.alloc (.cells #[.int .i64 k, .slice B lb cb, .string ⟨s.toArray⟩, .string ⟨v.toArray⟩] 26)).alloc (.cells #[.int .i64 k, .slice B' lb' cb', .string ⟨s'.toArray⟩, .string ⟨v'.toArray⟩] 26) = W0 from HW.out]
    try simp only [HGG.out.1, HGG.out.2]
    refine wp_region_held_drew (S := (fun X => (X.cell? ⟨g, 0, none⟩ = some (.int .i64 k) ∧ X.cell? ⟨g, 1, none⟩ = some (.slice B lb cb) ∧ X.cell? ⟨g, 2, none⟩ = some (.string ⟨s.toArray⟩) ∧ X.cell? ⟨g, 3, none⟩ = some (.string ⟨v.toArray⟩)) ∧ X.cell? ⟨g2, 0, none⟩ = some (.int .i64 k) ∧ X.cell? ⟨g2, 1, none⟩ = some (.slice B' lb' cb') ∧ X.cell? ⟨g2, 2, none⟩ = some (.string ⟨s'.toArray⟩) ∧ X.cell? ⟨g2, 3, none⟩ = some (.string ⟨v'.toArray⟩))) (by kernel_rfl) (HF.out _ ((Keeps.refl [] W0).drew)) ?_
    intro HS
    refine wpAnyH_take (i := 0) (v := .pointer (some ⟨g, 0, none⟩)) rfl (by kernel_rfl) (by kernel_rfl) (by kernel_rfl) (fun _ _ _ h => h) (Or.inl ⟨by kernel_rfl, ?_⟩) HS ?_
    ·intro w5 hw5
     obtain ⟨⟨a0, a1, a2, a3⟩, b0, b1, b2, b3⟩ := hw5
     go_simp
    simp only [Act.put, aL]
    refine wpAnyH_take (i := 1) (v := .int .i64 k) rfl (by kernel_rfl) (by kernel_rfl) (by kernel_rfl) (fun _ _ _ h => h) (Or.inl ⟨by kernel_rfl, ?_⟩) HS ?_
    ·intro w5 hw5
     obtain ⟨⟨a0, a1, a2, a3⟩, b0, b1, b2, b3⟩ := hw5
     go_simp
    simp only [Act.put, aL]
    refine wpAnyH_take (i := 2) (v := .pointer (some ⟨g2, 0, none⟩)) rfl (by kernel_rfl) (by kernel_rfl) (by kernel_rfl) (fun _ _ _ h => h) (Or.inl ⟨by kernel_rfl, ?_⟩) HS ?_
    ·intro w5 hw5
     obtain ⟨⟨a0, a1, a2, a3⟩, b0, b1, b2, b3⟩ := hw5
     go_simp
    simp only [Act.put, aL]
    refine wpAnyH_take (i := 3) (v := .int .i64 k) rfl (by kernel_rfl) (by kernel_rfl) (by kernel_rfl) (fun _ _ _ h => h) (Or.inl ⟨by kernel_rfl, ?_⟩) HS ?_
    ·intro w5 hw5
     obtain ⟨⟨a0, a1, a2, a3⟩, b0, b1, b2, b3⟩ := hw5
     go_simp
    simp only [Act.put, aL]
    refine wpAnyH_take (i := 4) (v := .bool false) rfl (by kernel_rfl) (by kernel_rfl) (by kernel_rfl) (fun _ _ _ h => h) (Or.inl ⟨by kernel_rfl, ?_⟩) HS ?_
    ·intro w5 hw5
     obtain ⟨⟨a0, a1, a2, a3⟩, b0, b1, b2, b3⟩ := hw5
     go_simp
    simp only [Act.put, aL]
    refine wpAnyH_take (i := 5) (v := .bool false) rfl (by kernel_rfl) (by kernel_rfl) (by kernel_rfl) (fun _ _ _ h => h) (Or.inl ⟨by kernel_rfl, ?_⟩) HS ?_
    ·intro w5 hw5
     obtain ⟨⟨a0, a1, a2, a3⟩, b0, b1, b2, b3⟩ := hw5
     go_simp
    simp only [Act.put, aL]
    refine wpAnyH_take (i := 6) (v := .pointer (some ⟨g, 2, none⟩)) rfl (by kernel_rfl) (by kernel_rfl) (by kernel_rfl) (fun _ _ _ h => h) (Or.inl ⟨by kernel_rfl, ?_⟩) HS ?_
    ·intro w5 hw5
     obtain ⟨⟨a0, a1, a2, a3⟩, b0, b1, b2, b3⟩ := hw5
     go_simp
    simp only [Act.put, aL]
    refine wpAnyH_take (i := 7) (v := .string ⟨s.toArray⟩) rfl (by kernel_rfl) (by kernel_rfl) (by kernel_rfl) (fun _ _ _ h => h) (Or.inl ⟨by kernel_rfl, ?_⟩) HS ?_
    ·intro w5 hw5
     obtain ⟨⟨a0, a1, a2, a3⟩, b0, b1, b2, b3⟩ := hw5
     go_simp
    simp only [Act.put, aL]
    refine wpAnyH_take (i := 9) (v := .pointer (some ⟨g2, 2, none⟩)) rfl (by kernel_rfl) (by kernel_rfl) (by kernel_rfl) (fun _ _ _ h => h) (Or.inl ⟨by kernel_rfl, ?_⟩) HS ?_
    ·intro w5 hw5
     obtain ⟨⟨a0, a1, a2, a3⟩, b0, b1, b2, b3⟩ := hw5
     go_simp
    simp only [Act.put, aL]
    refine wpAnyH_take (i := 10) (v := .string ⟨s'.toArray⟩) rfl (by kernel_rfl) (by kernel_rfl) (by kernel_rfl) (fun _ _ _ h => h) (Or.inl ⟨by kernel_rfl, ?_⟩) HS ?_
    ·intro w5 hw5
     obtain ⟨⟨a0, a1, a2, a3⟩, b0, b1, b2, b3⟩ := hw5
     go_simp
    simp only [Act.put, aL]
    refine wpAnyH_ready (rs := [8]) (by kernel_rfl) (by simp) ?_
    refine AllReadyH.cons rfl (fun K hK => ?_) (AllReadyH.nil)
    go_simp
    refine (HSA.out _).mono ?_
    rintro e w6 ⟨rfl, hk6⟩
    have K1 : Hid (Keeps [] W0 w6) := Keeps.trans' ((Keeps.refl [] W0).drew) hk6
    clear hk6
    refine hK.out _ _ (HF.out _ K1.out) (fun HS => ?_)
    clear hK K
    try simp only [Act.put, aL]
    refine wpAnyH_ready (rs := [11]) (by kernel_rfl) (by simp) ?_
    refine AllReadyH.cons rfl (fun K hK => ?_) (AllReadyH.nil)
    go_simp
    refine (HSB.out _).mono ?_
    rintro e w6 ⟨rfl, hk6⟩
    have K2 : Hid (Keeps [] W0 w6) := Keeps.trans' K1.out hk6
    clear hk6
    refine hK.out _ _ (HF.out _ K2.out) (fun HS => ?_)
    clear hK K
    try simp only [Act.put, aL]
    refine wpAnyH_take (i := 12) (v := .bool false) rfl (by kernel_rfl) (by kernel_rfl) (by kernel_rfl) (fun _ _ _ h => h) (Or.inl ⟨by kernel_rfl, ?_⟩) HS ?_
    ·intro w5 hw5
     obtain ⟨⟨a0, a1, a2, a3⟩, b0, b1, b2, b3⟩ := hw5
     go_simp
     first | done | exact hzq
    simp only [Act.put, aL]
    refine wpAnyH_take (i := 13) (v := .bool false) rfl (by kernel_rfl) (by kernel_rfl) (by kernel_rfl) (fun _ _ _ h => h) (Or.inl ⟨by kernel_rfl, ?_⟩) HS ?_
    ·intro w5 hw5
     obtain ⟨⟨a0, a1, a2, a3⟩, b0, b1, b2, b3⟩ := hw5
     go_simp
    simp only [Act.put, aL]
    refine wpAnyH_take (i := 14) (v := .bool false) rfl (by kernel_rfl) (by kernel_rfl) (by kernel_rfl) (fun _ _ _ h => h) (Or.inl ⟨by kernel_rfl, ?_⟩) HS ?_
    ·intro w5 hw5
     obtain ⟨⟨a0, a1, a2, a3⟩, b0, b1, b2, b3⟩ := hw5
     go_simp
    simp only [Act.put, aL]
    refine wpAnyH_take (i := 15) (v := .pointer (some ⟨g, 3, none⟩)) rfl (by kernel_rfl) (by kernel_rfl) (by kernel_rfl) (fun _ _ _ h => h) (Or.inl ⟨by kernel_rfl, ?_⟩) HS ?_
    ·intro w5 hw5
     obtain ⟨⟨a0, a1, a2, a3⟩, b0, b1, b2, b3⟩ := hw5
     go_simp
    simp only [Act.put, aL]
    refine wpAnyH_take (i := 16) (v := .string ⟨v.toArray⟩) rfl (by kernel_rfl) (by kernel_rfl) (by kernel_rfl) (fun _ _ _ h => h) (Or.inl ⟨by kernel_rfl, ?_⟩) HS ?_
    ·intro w5 hw5
     obtain ⟨⟨a0, a1, a2, a3⟩, b0, b1, b2, b3⟩ := hw5
     go_simp
    simp only [Act.put, aL]
    refine wpAnyH_take (i := 17) (v := .pointer (some ⟨g2, 3, none⟩)) rfl (by kernel_rfl) (by kernel_rfl) (by kernel_rfl) (fun _ _ _ h => h) (Or.inl ⟨by kernel_rfl, ?_⟩) HS ?_
    ·intro w5 hw5
     obtain ⟨⟨a0, a1, a2, a3⟩, b0, b1, b2, b3⟩ := hw5
     go_simp
    simp only [Act.put, aL]
    refine wpAnyH_take (i := 18) (v := .string ⟨v'.toArray⟩) rfl (by kernel_rfl) (by kernel_rfl) (by kernel_rfl) (fun _ _ _ h => h) (Or.inl ⟨by kernel_rfl, ?_⟩) HS ?_
    ·intro w5 hw5
     obtain ⟨⟨a0, a1, a2, a3⟩, b0, b1, b2, b3⟩ := hw5
     go_simp
    simp only [Act.put, aL]
    refine wpAnyH_take (i := 19) (v := .bool true) rfl (by kernel_rfl) (by kernel_rfl) (by kernel_rfl) (fun _ _ _ h => h) (Or.inl ⟨by kernel_rfl, ?_⟩) HS ?_
    ·intro w5 hw5
     obtain ⟨⟨a0, a1, a2, a3⟩, b0, b1, b2, b3⟩ := hw5
     go_simp
     first | done | exact hvq
    simp only [Act.put, aL]
    refine wpAnyH_take (i := 20) (v := .bool true) rfl (by kernel_rfl) (by kernel_rfl) (by kernel_rfl) (fun _ _ _ h => h) (Or.inl ⟨by kernel_rfl, ?_⟩) HS ?_
    ·intro w5 hw5
     obtain ⟨⟨a0, a1, a2, a3⟩, b0, b1, b2, b3⟩ := hw5
     go_simp
    simp only [Act.put, aL]
    refine wpAnyH_take (i := 21) (v := .bool true) rfl (by kernel_rfl) (by kernel_rfl) (by kernel_rfl) (fun _ _ _ h => h) (Or.inl ⟨by kernel_rfl, ?_⟩) HS ?_
    ·intro w5 hw5
     obtain ⟨⟨a0, a1, a2, a3⟩, b0, b1, b2, b3⟩ := hw5
     go_simp
    simp only [Act.put, aL]
    refine wpAnyH_take (i := 22) (v := undef) rfl (by kernel_rfl) (by kernel_rfl) (by kernel_rfl) (fun _ _ _ h => h) (Or.inr ⟨by kernel_rfl, rfl⟩) HS ?_
    simp only [Act.put, aL]
    refine wpAnyH_take (i := 23) (v := undef) rfl (by kernel_rfl) (by kernel_rfl) (by kernel_rfl) (fun _ _ _ h => h) (Or.inr ⟨by kernel_rfl, rfl⟩) HS ?_
    simp only [Act.put, aL]
    refine wpAnyH_take (i := 24) (v := undef) rfl (by kernel_rfl) (by kernel_rfl) (by kernel_rfl) (fun _ _ _ h => h) (Or.inr ⟨by kernel_rfl, rfl⟩) HS ?_
    simp only [Act.put, aL]
    refine wpAnyH_take (i := 25) (v := undef) rfl (by kernel_rfl) (by kernel_rfl) (by kernel_rfl) (fun _ _ _ h => h) (Or.inr ⟨by kernel_rfl, rfl⟩) HS ?_
    simp only [Act.put, aL]
    refine wpAnyH_take (i := 26) (v := undef) rfl (by kernel_rfl) (by kernel_rfl) (by kernel_rfl) (fun _ _ _ h => h) (Or.inr ⟨by kernel_rfl, rfl⟩) HS ?_
    simp only [Act.put, aL]
    refine wpAnyH_take (i := 27) (v := undef) rfl (by kernel_rfl) (by kernel_rfl) (by kernel_rfl) (fun _ _ _ h => h) (Or.inr ⟨by kernel_rfl, rfl⟩) HS ?_
    simp only [Act.put, aL]
    refine wpAnyH_take (i := 28) (v := undef) rfl (by kernel_rfl) (by kernel_rfl) (by kernel_rfl) (fun _ _ _ h => h) (Or.inr ⟨by kernel_rfl, rfl⟩) HS ?_
    simp only [Act.put, aL]
    refine wpAnyH_take (i := 29) (v := .bool true) rfl (by kernel_rfl) (by kernel_rfl) (by kernel_rfl) (fun _ _ _ h => h) (Or.inl ⟨by kernel_rfl, ?_⟩) HS ?_
    ·intro w5 hw5
     obtain ⟨⟨a0, a1, a2, a3⟩, b0, b1, b2, b3⟩ := hw5
     go_simp
    simp only [Act.put, aL]
    refine wpAnyH_done (by kernel_rfl) ?_ _
    go_wp2_with fail
    go_ret
    exact ⟨rfl, HK0.out.trans' K2.out⟩
 ·have hkb : (k == k') = false := by simpa using hk
  go_enter Tryz.func11, Tryz.ntmps11
  go_wp2_with fail
  try rw [show (w.alloc (.cells #[.int .i64 k, .slice B lb cb, .string ⟨s.toArray⟩, .string ⟨v.toArray⟩] 26)).alloc (.cells #[.int .i64 k', .slice B' lb' cb', .string ⟨s'.toArray⟩, .string ⟨v'.toArray⟩] 26) = W0 from HW.out]
  try simp only [HGG.out.1, HGG.out.2]
  refine wp_region_held_drew (S := (fun X => (X.cell? ⟨g, 0, none⟩ = some (.int .i64 k) ∧ X.cell? ⟨g, 1, none⟩ = some (.slice B lb cb) ∧ X.cell? ⟨g, 2, none⟩ = some (.string ⟨s.toArray⟩) ∧ X.cell? ⟨g, 3, none⟩ = some (.string ⟨v.toArray⟩)) ∧ X.cell? ⟨g2, 0, none⟩ = some (.int .i64 k') ∧ X.cell? ⟨g2, 1, none⟩ = some (.slice B' lb' cb') ∧ X.cell? ⟨g2, 2, none⟩ = some (.string ⟨s'.toArray⟩) ∧ X.cell? ⟨g2, 3, none⟩ = some (.string ⟨v'.toArray⟩))) (by kernel_rfl) (HF.out _ ((Keeps.refl [] W0).drew)) ?_
  intro HS
  refine wpAnyH_take (i := 0) (v := .pointer (some ⟨g, 0, none⟩)) rfl (by kernel_rfl) (by kernel_rfl) (by kernel_rfl) (fun _ _ _ h => h) (Or.inl ⟨by kernel_rfl, ?_⟩) HS ?_
  ·intro w5 hw5
   obtain ⟨⟨a0, a1, a2, a3⟩, b0, b1, b2, b3⟩ := hw5
   go_simp
  simp only [Act.put, aL]
  refine wpAnyH_take (i := 1) (v := .int .i64 k) rfl (by kernel_rfl) (by kernel_rfl) (by kernel_rfl) (fun _ _ _ h => h) (Or.inl ⟨by kernel_rfl, ?_⟩) HS ?_
  ·intro w5 hw5
   obtain ⟨⟨a0, a1, a2, a3⟩, b0, b1, b2, b3⟩ := hw5
   go_simp
  simp only [Act.put, aL]
  refine wpAnyH_take (i := 2) (v := .pointer (some ⟨g2, 0, none⟩)) rfl (by kernel_rfl) (by kernel_rfl) (by kernel_rfl) (fun _ _ _ h => h) (Or.inl ⟨by kernel_rfl, ?_⟩) HS ?_
  ·intro w5 hw5
   obtain ⟨⟨a0, a1, a2, a3⟩, b0, b1, b2, b3⟩ := hw5
   go_simp
  simp only [Act.put, aL]
  refine wpAnyH_take (i := 3) (v := .int .i64 k') rfl (by kernel_rfl) (by kernel_rfl) (by kernel_rfl) (fun _ _ _ h => h) (Or.inl ⟨by kernel_rfl, ?_⟩) HS ?_
  ·intro w5 hw5
   obtain ⟨⟨a0, a1, a2, a3⟩, b0, b1, b2, b3⟩ := hw5
   go_simp
  simp only [Act.put, aL]
  refine wpAnyH_take (i := 4) (v := .bool true) rfl (by kernel_rfl) (by kernel_rfl) (by kernel_rfl) (fun _ _ _ h => h) (Or.inl ⟨by kernel_rfl, ?_⟩) HS ?_
  ·intro w5 hw5
   obtain ⟨⟨a0, a1, a2, a3⟩, b0, b1, b2, b3⟩ := hw5
   go_simp
  simp only [Act.put, aL]
  refine wpAnyH_take (i := 5) (v := .bool true) rfl (by kernel_rfl) (by kernel_rfl) (by kernel_rfl) (fun _ _ _ h => h) (Or.inl ⟨by kernel_rfl, ?_⟩) HS ?_
  ·intro w5 hw5
   obtain ⟨⟨a0, a1, a2, a3⟩, b0, b1, b2, b3⟩ := hw5
   go_simp
  simp only [Act.put, aL]
  refine wpAnyH_take (i := 6) (v := undef) rfl (by kernel_rfl) (by kernel_rfl) (by kernel_rfl) (fun _ _ _ h => h) (Or.inr ⟨by kernel_rfl, rfl⟩) HS ?_
  simp only [Act.put, aL]
  refine wpAnyH_take (i := 7) (v := undef) rfl (by kernel_rfl) (by kernel_rfl) (by kernel_rfl) (fun _ _ _ h => h) (Or.inr ⟨by kernel_rfl, rfl⟩) HS ?_
  simp only [Act.put, aL]
  refine wpAnyH_take (i := 8) (v := undef) rfl (by kernel_rfl) (by kernel_rfl) (by kernel_rfl) (fun _ _ _ h => h) (Or.inr ⟨by kernel_rfl, rfl⟩) HS ?_
  simp only [Act.put, aL]
  refine wpAnyH_take (i := 9) (v := undef) rfl (by kernel_rfl) (by kernel_rfl) (by kernel_rfl) (fun _ _ _ h => h) (Or.inr ⟨by kernel_rfl, rfl⟩) HS ?_
  simp only [Act.put, aL]
  refine wpAnyH_take (i := 10) (v := undef) rfl (by kernel_rfl) (by kernel_rfl) (by kernel_rfl) (fun _ _ _ h => h) (Or.inr ⟨by kernel_rfl, rfl⟩) HS ?_
  simp only [Act.put, aL]
  refine wpAnyH_take (i := 11) (v := undef) rfl (by kernel_rfl) (by kernel_rfl) (by kernel_rfl) (fun _ _ _ h => h) (Or.inr ⟨by kernel_rfl, rfl⟩) HS ?_
  simp only [Act.put, aL]
  refine wpAnyH_take (i := 12) (v := undef) rfl (by kernel_rfl) (by kernel_rfl) (by kernel_rfl) (fun _ _ _ h => h) (Or.inr ⟨by kernel_rfl, rfl⟩) HS ?_
  simp only [Act.put, aL]
  refine wpAnyH_take (i := 13) (v := .bool true) rfl (by kernel_rfl) (by kernel_rfl) (by kernel_rfl) (fun _ _ _ h => h) (Or.inl ⟨by kernel_rfl, ?_⟩) HS ?_
  ·intro w5 hw5
   obtain ⟨⟨a0, a1, a2, a3⟩, b0, b1, b2, b3⟩ := hw5
   go_simp
  simp only [Act.put, aL]
  refine wpAnyH_take (i := 14) (v := .bool true) rfl (by kernel_rfl) (by kernel_rfl) (by kernel_rfl) (fun _ _ _ h => h) (Or.inl ⟨by kernel_rfl, ?_⟩) HS ?_
  ·intro w5 hw5
   obtain ⟨⟨a0, a1, a2, a3⟩, b0, b1, b2, b3⟩ := hw5
   go_simp
  simp only [Act.put, aL]
  refine wpAnyH_take (i := 15) (v := undef) rfl (by kernel_rfl) (by kernel_rfl) (by kernel_rfl) (fun _ _ _ h => h) (Or.inr ⟨by kernel_rfl, rfl⟩) HS ?_
  simp only [Act.put, aL]
  refine wpAnyH_take (i := 16) (v := undef) rfl (by kernel_rfl) (by kernel_rfl) (by kernel_rfl) (fun _ _ _ h => h) (Or.inr ⟨by kernel_rfl, rfl⟩) HS ?_
  simp only [Act.put, aL]
  refine wpAnyH_take (i := 17) (v := undef) rfl (by kernel_rfl) (by kernel_rfl) (by kernel_rfl) (fun _ _ _ h => h) (Or.inr ⟨by kernel_rfl, rfl⟩) HS ?_
  simp only [Act.put, aL]
  refine wpAnyH_take (i := 18) (v := undef) rfl (by kernel_rfl) (by kernel_rfl) (by kernel_rfl) (fun _ _ _ h => h) (Or.inr ⟨by kernel_rfl, rfl⟩) HS ?_
  simp only [Act.put, aL]
  refine wpAnyH_take (i := 19) (v := undef) rfl (by kernel_rfl) (by kernel_rfl) (by kernel_rfl) (fun _ _ _ h => h) (Or.inr ⟨by kernel_rfl, rfl⟩) HS ?_
  simp only [Act.put, aL]
  refine wpAnyH_take (i := 20) (v := .bool true) rfl (by kernel_rfl) (by kernel_rfl) (by kernel_rfl) (fun _ _ _ h => h) (Or.inl ⟨by kernel_rfl, ?_⟩) HS ?_
  ·intro w5 hw5
   obtain ⟨⟨a0, a1, a2, a3⟩, b0, b1, b2, b3⟩ := hw5
   go_simp
  simp only [Act.put, aL]
  refine wpAnyH_take (i := 21) (v := .bool true) rfl (by kernel_rfl) (by kernel_rfl) (by kernel_rfl) (fun _ _ _ h => h) (Or.inl ⟨by kernel_rfl, ?_⟩) HS ?_
  ·intro w5 hw5
   obtain ⟨⟨a0, a1, a2, a3⟩, b0, b1, b2, b3⟩ := hw5
   go_simp
  simp only [Act.put, aL]
  refine wpAnyH_take (i := 22) (v := undef) rfl (by kernel_rfl) (by kernel_rfl) (by kernel_rfl) (fun _ _ _ h => h) (Or.inr ⟨by kernel_rfl, rfl⟩) HS ?_
  simp only [Act.put, aL]
  refine wpAnyH_take (i := 23) (v := undef) rfl (by kernel_rfl) (by kernel_rfl) (by kernel_rfl) (fun _ _ _ h => h) (Or.inr ⟨by kernel_rfl, rfl⟩) HS ?_
  simp only [Act.put, aL]
  refine wpAnyH_take (i := 24) (v := undef) rfl (by kernel_rfl) (by kernel_rfl) (by kernel_rfl) (fun _ _ _ h => h) (Or.inr ⟨by kernel_rfl, rfl⟩) HS ?_
  simp only [Act.put, aL]
  refine wpAnyH_take (i := 25) (v := undef) rfl (by kernel_rfl) (by kernel_rfl) (by kernel_rfl) (fun _ _ _ h => h) (Or.inr ⟨by kernel_rfl, rfl⟩) HS ?_
  simp only [Act.put, aL]
  refine wpAnyH_take (i := 26) (v := undef) rfl (by kernel_rfl) (by kernel_rfl) (by kernel_rfl) (fun _ _ _ h => h) (Or.inr ⟨by kernel_rfl, rfl⟩) HS ?_
  simp only [Act.put, aL]
  refine wpAnyH_take (i := 27) (v := undef) rfl (by kernel_rfl) (by kernel_rfl) (by kernel_rfl) (fun _ _ _ h => h) (Or.inr ⟨by kernel_rfl, rfl⟩) HS ?_
  simp only [Act.put, aL]
  refine wpAnyH_take (i := 28) (v := undef) rfl (by kernel_rfl) (by kernel_rfl) (by kernel_rfl) (fun _ _ _ h => h) (Or.inr ⟨by kernel_rfl, rfl⟩) HS ?_
  simp only [Act.put, aL]
  refine wpAnyH_take (i := 29) (v := .bool true) rfl (by kernel_rfl) (by kernel_rfl) (by kernel_rfl) (fun _ _ _ h => h) (Or.inl ⟨by kernel_rfl, ?_⟩) HS ?_
  ·intro w5 hw5
   obtain ⟨⟨a0, a1, a2, a3⟩, b0, b1, b2, b3⟩ := hw5
   go_simp
  simp only [Act.put, aL]
  refine wpAnyH_done (by kernel_rfl) ?_ _
  go_wp2_with fail
  go_ret
  exact ⟨rfl, HK0.out.trans' ((Keeps.refl [] W0).drew)⟩
set_option maxHeartbeats 16000000 in
theorem rsame8_is : ∀ (t t' : FV) (h h' : FH) (w : World), FilAt w t h → FilAt w t' h' →
  Calls Tryz.prog 11 #[h.val, h'.val] w fun e w' => e = .returned (.bool (sameF t t')) ∧ Keeps [] w w' := by
 intro t
 induction t using FV.ind with
 | h k l s v ih =>
  intro t' h h' w ht ht'
  obtain ⟨k', l', s', v'⟩ := t'
  have IH := Lib.hid ih
  obtain ⟨rfl, rfl, rfl, h4, h5, hs, h7, h8, h9, h10, h11⟩ := ht
  obtain ⟨rfl, rfl, rfl, i4, i5, hs', i7, i8, i9, i10, i11⟩ := ht'
  obtain ⟨k, B, lb, cb, s, v⟩ := h
  obtain ⟨k', B', lb', cb', s', v'⟩ := h'
  have hl : l.length = lb := h8
  have hl' : l'.length = lb' := i8
  have hlb : lb ≤ 9223372036854775807 := Nat.le_trans h9 h10
  have hlb' : lb' ≤ 9223372036854775807 := Nat.le_trans i9 i10
  dsimp only at hs hs' h11 i11
  unfold FH.val tv
  dsimp only
  cases hd : likeH k k' s s' v v' lb lb' with
  | false =>
   refine (rsame8_step k B lb cb s v k' B' lb' cb' s' v' w hs hs' hd).mono ?_
   rintro e w' ⟨rfl, hk⟩
   refine ⟨?_, hk⟩
   rw [sameF, hl, hl', hd, Bool.false_and]
  | true =>
   have HP := Lib.hid hd
   have HI := Lib.hid h11
   have HI' := Lib.hid i11
   have HL := Lib.hid hl
   have HL' := Lib.hid hl'
   have HSF : Hid (sameF (.mk k l s v) (.mk k' l' s' v') = sameFL l l') := by show _ = _; rw [sameF, hl, hl', hd, Bool.true_and]
   clear h4 h5 h7 h8 h9 h10 h11 i4 i5 i7 i8 i9 i10 i11 hl hl' ih hd
   have HSA := Lib.hid (fun X => rsmall_is s X hs)
   have HSB := Lib.hid (fun X => rsmall_is s' X hs')
   obtain ⟨z, hz⟩ : ∃ z, smallL s = z := ⟨_, rfl⟩
   obtain ⟨z', hz'⟩ : ∃ z, smallL s' = z := ⟨_, rfl⟩
   unfold likeH at HP
   rw [hz, hz'] at HP
   rw [hz] at HSA
   rw [hz'] at HSB
   have HK0 : Hid (Keeps [] w ((w.alloc (.cells #[.int .i64 k, .slice B lb cb, .string ⟨s.toArray⟩, .string ⟨v.toArray⟩] 26)).alloc (.cells #[.int .i64 k', .slice B' lb' cb', .string ⟨s'.toArray⟩, .string ⟨v'.toArray⟩] 26))) := ((Keeps.refl [] w).alloc _).alloc _
   have hb0 := (two_boxes8 w (.cells #[.int .i64 k, .slice B lb cb, .string ⟨s.toArray⟩, .string ⟨v.toArray⟩] 26) (.cells #[.int .i64 k', .slice B' lb' cb', .string ⟨s'.toArray⟩, .string ⟨v'.toArray⟩] 26)).1
   have hb1 := (two_boxes8 w (.cells #[.int .i64 k, .slice B lb cb, .string ⟨s.toArray⟩, .string ⟨v.toArray⟩] 26) (.cells #[.int .i64 k', .slice B' lb' cb', .string ⟨s'.toArray⟩, .string ⟨v'.toArray⟩] 26)).2
   have HZ := Lib.hid (And.intro hz hz')
   obtain ⟨W0, hW0⟩ : ∃ W0, (w.alloc (.cells #[.int .i64 k, .slice B lb cb, .string ⟨s.toArray⟩, .string ⟨v.toArray⟩] 26)).alloc (.cells #[.int .i64 k', .slice B' lb' cb', .string ⟨s'.toArray⟩, .string ⟨v'.toArray⟩] 26) = W0 := ⟨_, rfl⟩
   rw [hW0] at HK0 hb0 hb1
   obtain ⟨g, hg⟩ : ∃ g, w.heap.size = g := ⟨_, rfl⟩
   rw [hg] at hb0 hb1
   obtain ⟨g2, hg2⟩ : ∃ g2, g + 1 = g2 := ⟨_, rfl⟩
   rw [hg2] at hb1
   have HF : Hid (∀ X, Keeps [] W0 X → (X.cell? ⟨g, 0, none⟩ = some (.int .i64 k) ∧ X.cell? ⟨g, 1, none⟩ = some (.slice B lb cb) ∧ X.cell? ⟨g, 2, none⟩ = some (.string ⟨s.toArray⟩) ∧ X.cell? ⟨g, 3, none⟩ = some (.string ⟨v.toArray⟩)) ∧ X.cell? ⟨g2, 0, none⟩ = some (.int .i64 k') ∧ X.cell? ⟨g2, 1, none⟩ = some (.slice B' lb' cb') ∧ X.cell? ⟨g2, 2, none⟩ = some (.string ⟨s'.toArray⟩) ∧ X.cell? ⟨g2, 3, none⟩ = some (.string ⟨v'.toArray⟩)) := fun X hX => ⟨(four_facts8 (blk_keep hb0 hX (by simp))).1, (four_facts8 (blk_keep hb1 hX (by simp))).1⟩
   have HW := Lib.hid hW0
   have HGG := Lib.hid (And.intro hg hg2)
   have HBX0 := Lib.hid hb0
   have HBY0 := Lib.hid hb1
   clear hs hs' hz hz' hb0 hb1 hW0 hg hg2
   have hall := HP.out
   simp only [Bool.and_eq_true, beq_iff_eq] at hall
   obtain ⟨hk, hzq, hv, hn⟩ := hall
   subst hk hv hn
   clear HP
   go_enter Tryz.func11, Tryz.ntmps11
   go_wp2_with fail
   try rw [show (w.alloc (.cells #[.int .i64 k, .slice B lb cb, .string ⟨s.toArray⟩, .string ⟨v.toArray⟩] 26)).alloc (.cells #[.int .i64 k, .slice B' lb cb', .string ⟨s'.toArray⟩, .string ⟨v.toArray⟩] 26) = W0 from HW.out]
   try simp only [HGG.out.1, HGG.out.2]
   refine wp_region_held_drew (S := (fun X => (X.cell? ⟨g, 0, none⟩ = some (.int .i64 k) ∧ X.cell? ⟨g, 1, none⟩ = some (.slice B lb cb) ∧ X.cell? ⟨g, 2, none⟩ = some (.string ⟨s.toArray⟩) ∧ X.cell? ⟨g, 3, none⟩ = some (.string ⟨v.toArray⟩)) ∧ X.cell? ⟨g2, 0, none⟩ = some (.int .i64 k) ∧ X.cell? ⟨g2, 1, none⟩ = some (.slice B' lb cb') ∧ X.cell? ⟨g2, 2, none⟩ = some (.string ⟨s'.toArray⟩) ∧ X.cell? ⟨g2, 3, none⟩ = some (.string ⟨v.toArray⟩))) (by kernel_rfl) (HF.out _ ((Keeps.refl [] W0).drew)) ?_
   intro HS
   refine wpAnyH_take (i := 0) (v := .pointer (some ⟨g, 0, none⟩)) rfl (by kernel_rfl) (by kernel_rfl) (by kernel_rfl) (fun _ _ _ h => h) (Or.inl ⟨by kernel_rfl, ?_⟩) HS ?_
   ·intro w5 hw5
    obtain ⟨⟨a0, a1, a2, a3⟩, b0, b1, b2, b3⟩ := hw5
    go_simp
   simp only [Act.put, aL]
   refine wpAnyH_take (i := 1) (v := .int .i64 k) rfl (by kernel_rfl) (by kernel_rfl) (by kernel_rfl) (fun _ _ _ h => h) (Or.inl ⟨by kernel_rfl, ?_⟩) HS ?_
   ·intro w5 hw5
    obtain ⟨⟨a0, a1, a2, a3⟩, b0, b1, b2, b3⟩ := hw5
    go_simp
   simp only [Act.put, aL]
   refine wpAnyH_take (i := 2) (v := .pointer (some ⟨g2, 0, none⟩)) rfl (by kernel_rfl) (by kernel_rfl) (by kernel_rfl) (fun _ _ _ h => h) (Or.inl ⟨by kernel_rfl, ?_⟩) HS ?_
   ·intro w5 hw5
    obtain ⟨⟨a0, a1, a2, a3⟩, b0, b1, b2, b3⟩ := hw5
    go_simp
   simp only [Act.put, aL]
   refine wpAnyH_take (i := 3) (v := .int .i64 k) rfl (by kernel_rfl) (by kernel_rfl) (by kernel_rfl) (fun _ _ _ h => h) (Or.inl ⟨by kernel_rfl, ?_⟩) HS ?_
   ·intro w5 hw5
    obtain ⟨⟨a0, a1, a2, a3⟩, b0, b1, b2, b3⟩ := hw5
    go_simp
   simp only [Act.put, aL]
   refine wpAnyH_take (i := 4) (v := .bool false) rfl (by kernel_rfl) (by kernel_rfl) (by kernel_rfl) (fun _ _ _ h => h) (Or.inl ⟨by kernel_rfl, ?_⟩) HS ?_
   ·intro w5 hw5
    obtain ⟨⟨a0, a1, a2, a3⟩, b0, b1, b2, b3⟩ := hw5
    go_simp
   simp only [Act.put, aL]
   refine wpAnyH_take (i := 5) (v := .bool false) rfl (by kernel_rfl) (by kernel_rfl) (by kernel_rfl) (fun _ _ _ h => h) (Or.inl ⟨by kernel_rfl, ?_⟩) HS ?_
   ·intro w5 hw5
    obtain ⟨⟨a0, a1, a2, a3⟩, b0, b1, b2, b3⟩ := hw5
    go_simp
   simp only [Act.put, aL]
   refine wpAnyH_take (i := 6) (v := .pointer (some ⟨g, 2, none⟩)) rfl (by kernel_rfl) (by kernel_rfl) (by kernel_rfl) (fun _ _ _ h => h) (Or.inl ⟨by kernel_rfl, ?_⟩) HS ?_
   ·intro w5 hw5
    obtain ⟨⟨a0, a1, a2, a3⟩, b0, b1, b2, b3⟩ := hw5
    go_simp
   simp only [Act.put, aL]
   refine wpAnyH_take (i := 7) (v := .string ⟨s.toArray⟩) rfl (by kernel_rfl) (by kernel_rfl) (by kernel_rfl) (fun _ _ _ h => h) (Or.inl ⟨by kernel_rfl, ?_⟩) HS ?_
   ·intro w5 hw5
    obtain ⟨⟨a0, a1, a2, a3⟩, b0, b1, b2, b3⟩ := hw5
    go_simp
   simp only [Act.put, aL]
   refine wpAnyH_take (i := 9) (v := .pointer (some ⟨g2, 2, none⟩)) rfl (by kernel_rfl) (by kernel_rfl) (by kernel_rfl) (fun _ _ _ h => h) (Or.inl ⟨by kernel_rfl, ?_⟩) HS ?_
   ·intro w5 hw5
    obtain ⟨⟨a0, a1, a2, a3⟩, b0, b1, b2, b3⟩ := hw5
    go_simp
   simp only [Act.put, aL]
   refine wpAnyH_take (i := 10) (v := .string ⟨s'.toArray⟩) rfl (by kernel_rfl) (by kernel_rfl) (by kernel_rfl) (fun _ _ _ h => h) (Or.inl ⟨by kernel_rfl, ?_⟩) HS ?_
   ·intro w5 hw5
    obtain ⟨⟨a0, a1, a2, a3⟩, b0, b1, b2, b3⟩ := hw5
    go_simp
   simp only [Act.put, aL]
   refine wpAnyH_ready (rs := [8]) (by kernel_rfl) (by simp) ?_
   refine AllReadyH.cons rfl (fun K hK => ?_) (AllReadyH.nil)
   go_simp
   refine (HSA.out _).mono ?_
   rintro e w6 ⟨rfl, hk6⟩
   have K1 : Hid (Keeps [] W0 w6) := Keeps.trans' ((Keeps.refl [] W0).drew) hk6
   clear hk6
   refine hK.out _ _ (HF.out _ K1.out) (fun HS => ?_)
   clear hK K
   try simp only [Act.put, aL]
   refine wpAnyH_ready (rs := [11]) (by kernel_rfl) (by simp) ?_
   refine AllReadyH.cons rfl (fun K hK => ?_) (AllReadyH.nil)
   go_simp
   refine (HSB.out _).mono ?_
   rintro e w6 ⟨rfl, hk6⟩
   have K2 : Hid (Keeps [] W0 w6) := Keeps.trans' K1.out hk6
   clear hk6
   refine hK.out _ _ (HF.out _ K2.out) (fun HS => ?_)
   clear hK K
   try simp only [Act.put, aL]
   refine wpAnyH_take (i := 12) (v := .bool false) rfl (by kernel_rfl) (by kernel_rfl) (by kernel_rfl) (fun _ _ _ h => h) (Or.inl ⟨by kernel_rfl, ?_⟩) HS ?_
   ·intro w5 hw5
    obtain ⟨⟨a0, a1, a2, a3⟩, b0, b1, b2, b3⟩ := hw5
    go_simp
    first | done | exact hzq
   simp only [Act.put, aL]
   refine wpAnyH_take (i := 13) (v := .bool false) rfl (by kernel_rfl) (by kernel_rfl) (by kernel_rfl) (fun _ _ _ h => h) (Or.inl ⟨by kernel_rfl, ?_⟩) HS ?_
   ·intro w5 hw5
    obtain ⟨⟨a0, a1, a2, a3⟩, b0, b1, b2, b3⟩ := hw5
    go_simp
   simp only [Act.put, aL]
   refine wpAnyH_take (i := 14) (v := .bool false) rfl (by kernel_rfl) (by kernel_rfl) (by kernel_rfl) (fun _ _ _ h => h) (Or.inl ⟨by kernel_rfl, ?_⟩) HS ?_
   ·intro w5 hw5
    obtain ⟨⟨a0, a1, a2, a3⟩, b0, b1, b2, b3⟩ := hw5
    go_simp
   simp only [Act.put, aL]
   refine wpAnyH_take (i := 15) (v := .pointer (some ⟨g, 3, none⟩)) rfl (by kernel_rfl) (by kernel_rfl) (by kernel_rfl) (fun _ _ _ h => h) (Or.inl ⟨by kernel_rfl, ?_⟩) HS ?_
   ·intro w5 hw5
    obtain ⟨⟨a0, a1, a2, a3⟩, b0, b1, b2, b3⟩ := hw5
    go_simp
   simp only [Act.put, aL]
   refine wpAnyH_take (i := 16) (v := .string ⟨v.toArray⟩) rfl (by kernel_rfl) (by kernel_rfl) (by kernel_rfl) (fun _ _ _ h => h) (Or.inl ⟨by kernel_rfl, ?_⟩) HS ?_
   ·intro w5 hw5
    obtain ⟨⟨a0, a1, a2, a3⟩, b0, b1, b2, b3⟩ := hw5
    go_simp
   simp only [Act.put, aL]
   refine wpAnyH_take (i := 17) (v := .pointer (some ⟨g2, 3, none⟩)) rfl (by kernel_rfl) (by kernel_rfl) (by kernel_rfl) (fun _ _ _ h => h) (Or.inl ⟨by kernel_rfl, ?_⟩) HS ?_
   ·intro w5 hw5
    obtain ⟨⟨a0, a1, a2, a3⟩, b0, b1, b2, b3⟩ := hw5
    go_simp
   simp only [Act.put, aL]
   refine wpAnyH_take (i := 18) (v := .string ⟨v.toArray⟩) rfl (by kernel_rfl) (by kernel_rfl) (by kernel_rfl) (fun _ _ _ h => h) (Or.inl ⟨by kernel_rfl, ?_⟩) HS ?_
   ·intro w5 hw5
    obtain ⟨⟨a0, a1, a2, a3⟩, b0, b1, b2, b3⟩ := hw5
    go_simp
   simp only [Act.put, aL]
   refine wpAnyH_take (i := 19) (v := .bool false) rfl (by kernel_rfl) (by kernel_rfl) (by kernel_rfl) (fun _ _ _ h => h) (Or.inl ⟨by kernel_rfl, ?_⟩) HS ?_
   ·intro w5 hw5
    obtain ⟨⟨a0, a1, a2, a3⟩, b0, b1, b2, b3⟩ := hw5
    go_simp
    first | done | exact hvq
   simp only [Act.put, aL]
   refine wpAnyH_take (i := 20) (v := .bool false) rfl (by kernel_rfl) (by kernel_rfl) (by kernel_rfl) (fun _ _ _ h => h) (Or.inl ⟨by kernel_rfl, ?_⟩) HS ?_
   ·intro w5 hw5
    obtain ⟨⟨a0, a1, a2, a3⟩, b0, b1, b2, b3⟩ := hw5
    go_simp
   simp only [Act.put, aL]
   refine wpAnyH_take (i := 21) (v := .bool false) rfl (by kernel_rfl) (by kernel_rfl) (by kernel_rfl) (fun _ _ _ h => h) (Or.inl ⟨by kernel_rfl, ?_⟩) HS ?_
   ·intro w5 hw5
    obtain ⟨⟨a0, a1, a2, a3⟩, b0, b1, b2, b3⟩ := hw5
    go_simp
   simp only [Act.put, aL]
   refine wpAnyH_take (i := 22) (v := .pointer (some ⟨g, 1, none⟩)) rfl (by kernel_rfl) (by kernel_rfl) (by kernel_rfl) (fun _ _ _ h => h) (Or.inl ⟨by kernel_rfl, ?_⟩) HS ?_
   ·intro w5 hw5
    obtain ⟨⟨a0, a1, a2, a3⟩, b0, b1, b2, b3⟩ := hw5
    go_simp
   simp only [Act.put, aL]
   refine wpAnyH_take (i := 23) (v := .slice B lb cb) rfl (by kernel_rfl) (by kernel_rfl) (by kernel_rfl) (fun _ _ _ h => h) (Or.inl ⟨by kernel_rfl, ?_⟩) HS ?_
   ·intro w5 hw5
    obtain ⟨⟨a0, a1, a2, a3⟩, b0, b1, b2, b3⟩ := hw5
    go_simp
   simp only [Act.put, aL]
   refine wpAnyH_take (i := 24) (v := .int .i64 (lb : Int)) rfl (by kernel_rfl) (by kernel_rfl) (by kernel_rfl) (fun _ _ _ h => h) (Or.inl ⟨by kernel_rfl, ?_⟩) HS ?_
   ·intro w5 hw5
    obtain ⟨⟨a0, a1, a2, a3⟩, b0, b1, b2, b3⟩ := hw5
    go_simp
   simp only [Act.put, aL]
   refine wpAnyH_take (i := 25) (v := .pointer (some ⟨g2, 1, none⟩)) rfl (by kernel_rfl) (by kernel_rfl) (by kernel_rfl) (fun _ _ _ h => h) (Or.inl ⟨by kernel_rfl, ?_⟩) HS ?_
   ·intro w5 hw5
    obtain ⟨⟨a0, a1, a2, a3⟩, b0, b1, b2, b3⟩ := hw5
    go_simp
   simp only [Act.put, aL]
   refine wpAnyH_take (i := 26) (v := .slice B' lb cb') rfl (by kernel_rfl) (by kernel_rfl) (by kernel_rfl) (fun _ _ _ h => h) (Or.inl ⟨by kernel_rfl, ?_⟩) HS ?_
   ·intro w5 hw5
    obtain ⟨⟨a0, a1, a2, a3⟩, b0, b1, b2, b3⟩ := hw5
    go_simp
   simp only [Act.put, aL]
   refine wpAnyH_take (i := 27) (v := .int .i64 (lb : Int)) rfl (by kernel_rfl) (by kernel_rfl) (by kernel_rfl) (fun _ _ _ h => h) (Or.inl ⟨by kernel_rfl, ?_⟩) HS ?_
   ·intro w5 hw5
    obtain ⟨⟨a0, a1, a2, a3⟩, b0, b1, b2, b3⟩ := hw5
    go_simp
   simp only [Act.put, aL]
   refine wpAnyH_take (i := 28) (v := .bool false) rfl (by kernel_rfl) (by kernel_rfl) (by kernel_rfl) (fun _ _ _ h => h) (Or.inl ⟨by kernel_rfl, ?_⟩) HS ?_
   ·intro w5 hw5
    obtain ⟨⟨a0, a1, a2, a3⟩, b0, b1, b2, b3⟩ := hw5
    go_simp
   simp only [Act.put, aL]
   refine wpAnyH_take (i := 29) (v := .bool false) rfl (by kernel_rfl) (by kernel_rfl) (by kernel_rfl) (fun _ _ _ h => h) (Or.inl ⟨by kernel_rfl, ?_⟩) HS ?_
   ·intro w5 hw5
    obtain ⟨⟨a0, a1, a2, a3⟩, b0, b1, b2, b3⟩ := hw5
    go_simp
   simp only [Act.put, aL]
   refine wpAnyH_done (by kernel_rfl) ?_ _
   go_wp2_with fail
   go_loopw [5] (fun i wr => ∃ j : Nat, i = .int .i64 (j : Int) ∧ j ≤ lb ∧ Hid (sameFL (l.take j) (l'.take j) = true) ∧ Hid (Keeps [] w wr) ∧ Hid (wr.heap[g]? = some (.cells #[.int .i64 k, .slice B lb cb, .string ⟨s.toArray⟩, .string ⟨v.toArray⟩] 26 (0, 0))) ∧ Hid (wr.heap[g2]? = some (.cells #[.int .i64 k, .slice B' lb cb', .string ⟨s'.toArray⟩, .string ⟨v.toArray⟩] 26 (0, 0)))) (fun i _ => lb - (intOf i).toNat)
   case atStart => exact ⟨0, rfl, Nat.zero_le _, by show _ = _; simp [sameFL], HK0.out.trans' K2.out, blk_keep HBX0.out K2.out (by simp), blk_keep HBY0.out K2.out (by simp)⟩
   case round =>
    obtain ⟨j, rfl, hj, HS9, HKR, HBX, HBY⟩ := hrel
    obtain ⟨⟨z0, z1, z2, z3⟩, _⟩ := four_facts8 HBX.out
    obtain ⟨⟨y0, y1, y2, y3⟩, _⟩ := four_facts8 HBY.out
    by_cases hlt : j < lb
    ·have hx : l[j]? = some (l[j]'(by have := HL.out; omega)) := List.getElem?_eq_getElem _
     have hx' : l'[j]? = some (l'[j]'(by have := HL'.out; omega)) := List.getElem?_eq_getElem _
     obtain ⟨b9, o1, hh, rfl, hc, hat⟩ := (FilsAt.grow HKR.out B 0 l HI.out).at_ j _ hx
     obtain ⟨b8, o2, hh', rfl, hc', hat'⟩ := (FilsAt.grow HKR.out B' 0 l' HI'.out).at_ j _ hx'
     rw [Nat.zero_add] at hc hc'
     obtain ⟨g0, g1, g3, g4⟩ := four_at hc
     obtain ⟨f0, f1, f2, f3⟩ := four_at hc'
     have hmem : (l[j]'(by have := HL.out; omega)) ∈ l := List.getElem_mem _
     have HX := Lib.hid hx
     have HX' := Lib.hid hx'
     clear hx hx' hc hc'
     generalize hxx : l[j]'(by have := HL.out; omega) = x at *
     generalize hyy : l'[j]'(by have := HL'.out; omega) = y at *
     obtain ⟨k1, B1, lb1, cb1, s1, v1⟩ := hh
     obtain ⟨k2, B2, lb2, cb2, s2, v2⟩ := hh'
     dsimp only at g0 g1 g3 g4 f0 f1 f2 f3
     have HREC : Hid (∀ X, Keeps [] wr X → Calls Tryz.prog 11 #[.agg #[.int .i64 k1, .slice B1 lb1 cb1, .string ⟨s1.toArray⟩, .string ⟨v1.toArray⟩], .agg #[.int .i64 k2, .slice B2 lb2 cb2, .string ⟨s2.toArray⟩, .string ⟨v2.toArray⟩]] X fun e w' => e = .returned (.bool (sameF x y)) ∧ Keeps [] X w') := fun X hk =>
      IH.out x hmem y ⟨k1, B1, lb1, cb1, s1, v1⟩ ⟨k2, B2, lb2, cb2, s2, v2⟩ X (FilAt.grow hk x _ hat) (FilAt.grow hk y _ hat')
     have HSN := Lib.hid (sameFL_at HX.out HX'.out)
     obtain ⟨b1, hb1⟩ : ∃ b1, b1 = sameF x y := ⟨_, rfl⟩
     have HB1 := Lib.hid hb1
     rw [← hb1] at HREC
     have hji : (j : Int) < (lb : Int) := by omega
     have hj0 : (0 : Int) ≤ (j : Int) := by omega
     clear hat hat' hxx hyy hmem hb1
     have HALL : Hid (∀ X, Keeps [] wr X → (X.cell? ⟨g, 1, none⟩ = some (.slice (some ⟨b9, o1, none⟩) lb cb) ∧ X.cell? ⟨g2, 1, none⟩ = some (.slice (some ⟨b8, o2, none⟩) lb cb')) ∧ (X.cell? ⟨b9, o1 + j * 4, none⟩ = some (.int .i64 k1) ∧ X.cell? ⟨b9, o1 + j * 4 + 1, none⟩ = some (.slice B1 lb1 cb1) ∧ X.cell? ⟨b9, o1 + j * 4 + 2, none⟩ = some (.string ⟨s1.toArray⟩) ∧ X.cell? ⟨b9, o1 + j * 4 + 3, none⟩ = some (.string ⟨v1.toArray⟩)) ∧ (X.cell? ⟨b8, o2 + j * 4, none⟩ = some (.int .i64 k2) ∧ X.cell? ⟨b8, o2 + j * 4 + 1, none⟩ = some (.slice B2 lb2 cb2) ∧ X.cell? ⟨b8, o2 + j * 4 + 2, none⟩ = some (.string ⟨s2.toArray⟩) ∧ X.cell? ⟨b8, o2 + j * 4 + 3, none⟩ = some (.string ⟨v2.toArray⟩))) := fun X hk => ⟨⟨(hk.cell (lt_of_cell z1) (by simp)).trans z1, (hk.cell (lt_of_cell y1) (by simp)).trans y1⟩, ⟨(hk.cell (lt_of_cell g0) (by simp)).trans g0, (hk.cell (lt_of_cell g1) (by simp)).trans g1, (hk.cell (lt_of_cell g3) (by simp)).trans g3, (hk.cell (lt_of_cell g4) (by simp)).trans g4⟩, ⟨(hk.cell (lt_of_cell f0) (by simp)).trans f0, (hk.cell (lt_of_cell f1) (by simp)).trans f1, (hk.cell (lt_of_cell f2) (by simp)).trans f2, (hk.cell (lt_of_cell f3) (by simp)).trans f3⟩⟩
     go_wp2_with fail
     have ya := HALL.out wr (Keeps.refl [] _)
     clear z0 z1 z2 z3 y0 y1 y2 y3 g0 g1 g3 g4 f0 f1 f2 f3
     go_region_held3 (fun w' => (w'.cell? ⟨g, 1, none⟩ = some (.slice (some ⟨b9, o1, none⟩) lb cb) ∧ w'.cell? ⟨g2, 1, none⟩ = some (.slice (some ⟨b8, o2, none⟩) lb cb')) ∧ (w'.cell? ⟨b9, o1 + j * 4, none⟩ = some (.int .i64 k1) ∧ w'.cell? ⟨b9, o1 + j * 4 + 1, none⟩ = some (.slice B1 lb1 cb1) ∧ w'.cell? ⟨b9, o1 + j * 4 + 2, none⟩ = some (.string ⟨s1.toArray⟩) ∧ w'.cell? ⟨b9, o1 + j * 4 + 3, none⟩ = some (.string ⟨v1.toArray⟩)) ∧ (w'.cell? ⟨b8, o2 + j * 4, none⟩ = some (.int .i64 k2) ∧ w'.cell? ⟨b8, o2 + j * 4 + 1, none⟩ = some (.slice B2 lb2 cb2) ∧ w'.cell? ⟨b8, o2 + j * 4 + 2, none⟩ = some (.string ⟨s2.toArray⟩) ∧ w'.cell? ⟨b8, o2 + j * 4 + 3, none⟩ = some (.string ⟨v2.toArray⟩))) (first | exact ya | exact yb | go_keep) (first | (go_at_call 11; refine (HREC.out _ (by repeat (first | exact Keeps.refl [] _ | refine Keeps.drew ?_))).mono ?_; rintro e w2 ⟨rfl, hk2⟩; have kk := Keeps.trans' (a := wr) (bs := []) (by repeat (first | exact Keeps.refl [] _ | refine Keeps.drew ?_)) hk2; have HKK := Lib.hid kk; have yb := HALL.out w2 kk; clear hk2 kk))
     all_goals have HK2 := Lib.hid (HKR.out.trans' HKK.out)
     all_goals have HBX2 := Lib.hid (blk_keep HBX.out HKK.out (by simp))
     all_goals have HBY2 := Lib.hid (blk_keep HBY.out HKK.out (by simp))
     all_goals clear ya yb
     cases b1
     ·go_wp2_with fail
      go_ret
      exact ⟨by rw [HSF.out, sameFL_cut HX.out HX'.out HB1.out.symm (HL.out.trans HL'.out.symm)]; rfl, HK2.out⟩
     ·go_wp2_with fail
      go_roundw
      case rel =>
       refine ⟨j + 1, by go_num, by omega, ?_, HK2.out, HBX2.out, HBY2.out⟩
       show _ = _
       rw [HSN.out, HS9.out, ← HB1.out]; rfl
      case measure => simp [intOf]; omega
    ·obtain rfl : j = lb := by omega
     have htl : l.take j = l := List.take_of_length_le (by have := HL.out; omega)
     have htl' : l'.take j = l' := List.take_of_length_le (by have := HL'.out; omega)
     rw [htl, htl'] at HS9
     clear htl htl'
     go_wp2_with fail
     go_ret
     refine ⟨?_, HKR.out⟩
     rw [HSF.out, HS9.out]; rfl
end Go.Proofs.YtbfebljahjmjfaaGreatDoor
