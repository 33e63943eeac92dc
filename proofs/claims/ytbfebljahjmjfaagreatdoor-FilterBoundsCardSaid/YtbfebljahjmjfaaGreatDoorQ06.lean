import Derived.Test.YtbfebljahjmjfaaGreatDoorQ05
/- entry: isAttr, Check; walked. -/
namespace Go.Proofs.YtbfebljahjmjfaaGreatDoor
open Go.RowKit Go.Shelf
set_option linter.unusedVariables false
set_option linter.unusedSimpArgs false
set_option maxRecDepth 100000

/-- May an attribute be one of an entry's, but for how many Values it has at most? -/
def attrOk (a : Att) : Bool := decide (0 < a.2.length) && (a.1 == smallL a.1 && (maybeA a.1 a.2 && (a.2 == ordS a.2)))
set_option maxHeartbeats 8000000 in
theorem isattr_is (a : At7) (w : World) (h : a.fits w) (hn : a.n ≤ 100000) :
  Calls Tryz.prog 187 #[.agg #[tv a.name, .slice a.A a.n a.c]] w fun e w' => e = .returned (.bool (attrOk a.att)) ∧ Keeps [] w w' := by
 obtain ⟨s, aA, an, ac, avs⟩ := a
 obtain ⟨hs, hnc, hc, hV⟩ := h
 dsimp only at hs hnc hc hV hn
 obtain ⟨r, hr⟩ : ∃ r, attrOk (At7.att ⟨s, aA, an, ac, avs⟩) = r := ⟨_, rfl⟩
 rw [hr]
 unfold attrOk At7.att at hr
 dsimp only at hr ⊢
 rw [hV.1] at hr
 unfold tv
 have HK0 : Hid (Keeps [] w (w.alloc (.cells #[.string ⟨s.toArray⟩, .slice aA an ac] 70))) := (Keeps.refl [] w).alloc _
 have hb0 := heap_new8 w (.cells #[.string ⟨s.toArray⟩, .slice aA an ac] 70)
 obtain ⟨W0, hW0⟩ : ∃ W0, w.alloc (.cells #[.string ⟨s.toArray⟩, .slice aA an ac] 70) = W0 := ⟨_, rfl⟩
 rw [hW0] at HK0 hb0
 obtain ⟨g, hg⟩ : ∃ g, w.heap.size = g := ⟨_, rfl⟩
 rw [hg] at hb0
 have HF : Hid (∀ X, Keeps [] W0 X → X.cell? ⟨g, 0, none⟩ = some (.string ⟨s.toArray⟩) ∧ X.cell? ⟨g, 1, none⟩ = some (.slice aA an ac)) := fun X hX => (blk2 (blk_keep hb0 hX (by simp))).1
 have HSM := Lib.hid (fun X => small_is s X hs)
 have HMB := Lib.hid (fun X (hX : Keeps [] W0 X) => maybe7_is s aA an ac avs X hs (StrsIn.grow (HK0.out.trans' hX) hV) (by omega))
 have HIO := Lib.hid (fun X (hX : Keeps [] W0 X) => isordered_is aA an ac avs X (StrsIn.grow (HK0.out.trans' hX) hV) (by omega))
 obtain ⟨z, hz⟩ : ∃ z, smallL s = z := ⟨_, rfl⟩
 obtain ⟨q2, hq2⟩ : ∃ q, maybeA s avs = q := ⟨_, rfl⟩
 obtain ⟨q3, hq3⟩ : ∃ q, (avs == ordS avs) = q := ⟨_, rfl⟩
 obtain ⟨q1, hq1⟩ : ∃ q, (s == z) = q := ⟨_, rfl⟩
 obtain ⟨hs1, hs2, hs3⟩ := tx_beq s z q1 hq1
 rw [hz] at hr HSM
 rw [hq1, hq2, hq3] at hr
 rw [hq2] at HMB
 rw [hq3] at HIO
 clear hz hq2 hq3 hV hs hc hb0
 rcases Nat.eq_zero_or_pos an with h0 | h0
 ·obtain rfl : r = false := by rw [← hr, h0]; rfl
  have hg0 : decide ((0 : Int) < (an : Int)) = false := by simp; omega
  have hg0b : ¬ (0 : Int) < (an : Int) := by omega
  have H0 := Lib.hid h0
  clear hr hq1 HSM HMB HIO h0 hs1 hs2 hs3 hn hnc
  go_enter Tryz.func187, Tryz.ntmps187
  go_wp2_with fail
  clear hW0 hg
  refine wp_region_held_drew (S := (fun X => X.cell? ⟨g, 0, none⟩ = some (.string ⟨s.toArray⟩) ∧ X.cell? ⟨g, 1, none⟩ = some (.slice aA an ac))) (by kernel_rfl) (HF.out _ ((Keeps.refl [] W0).drew)) ?_
  intro HS
  refine wpAnyH_take (i := 0) (v := .pointer (some ⟨g, 1, none⟩)) rfl (by kernel_rfl) (by kernel_rfl) (by kernel_rfl) (fun _ _ _ h => h) (Or.inl ⟨by kernel_rfl, ?_⟩) HS ?_
  ·intro w5 hw5
   obtain ⟨d0, d1⟩ := hw5
   go_simp
  simp only [Act.put, aL]
  refine wpAnyH_take (i := 1) (v := .slice aA an ac) rfl (by kernel_rfl) (by kernel_rfl) (by kernel_rfl) (fun _ _ _ h => h) (Or.inl ⟨by kernel_rfl, ?_⟩) HS ?_
  ·intro w5 hw5
   obtain ⟨d0, d1⟩ := hw5
   go_simp
  simp only [Act.put, aL]
  refine wpAnyH_take (i := 2) (v := .int .i64 (an : Int)) rfl (by kernel_rfl) (by kernel_rfl) (by kernel_rfl) (fun _ _ _ h => h) (Or.inl ⟨by kernel_rfl, ?_⟩) HS ?_
  ·intro w5 hw5
   obtain ⟨d0, d1⟩ := hw5
   go_simp
  simp only [Act.put, aL]
  refine wpAnyH_take (i := 3) (v := .bool false) rfl (by kernel_rfl) (by kernel_rfl) (by kernel_rfl) (fun _ _ _ h => h) (Or.inl ⟨by kernel_rfl, ?_⟩) HS ?_
  ·intro w5 hw5
   obtain ⟨d0, d1⟩ := hw5
   go_simp
   first | done | exact H0.out
  simp only [Act.put, aL]
  refine wpAnyH_take (i := 4) (v := .bool false) rfl (by kernel_rfl) (by kernel_rfl) (by kernel_rfl) (fun _ _ _ h => h) (Or.inl ⟨by kernel_rfl, ?_⟩) HS ?_
  ·intro w5 hw5
   obtain ⟨d0, d1⟩ := hw5
   go_simp
  simp only [Act.put, aL]
  refine wpAnyH_take (i := 5) (v := undef) rfl (by kernel_rfl) (by kernel_rfl) (by kernel_rfl) (fun _ _ _ h => h) (Or.inr ⟨by kernel_rfl, rfl⟩) HS ?_
  simp only [Act.put, aL]
  refine wpAnyH_take (i := 6) (v := undef) rfl (by kernel_rfl) (by kernel_rfl) (by kernel_rfl) (fun _ _ _ h => h) (Or.inr ⟨by kernel_rfl, rfl⟩) HS ?_
  simp only [Act.put, aL]
  refine wpAnyH_take (i := 7) (v := undef) rfl (by kernel_rfl) (by kernel_rfl) (by kernel_rfl) (fun _ _ _ h => h) (Or.inr ⟨by kernel_rfl, rfl⟩) HS ?_
  simp only [Act.put, aL]
  refine wpAnyH_take (i := 8) (v := undef) rfl (by kernel_rfl) (by kernel_rfl) (by kernel_rfl) (fun _ _ _ h => h) (Or.inr ⟨by kernel_rfl, rfl⟩) HS ?_
  simp only [Act.put, aL]
  refine wpAnyH_take (i := 9) (v := undef) rfl (by kernel_rfl) (by kernel_rfl) (by kernel_rfl) (fun _ _ _ h => h) (Or.inr ⟨by kernel_rfl, rfl⟩) HS ?_
  simp only [Act.put, aL]
  refine wpAnyH_take (i := 10) (v := undef) rfl (by kernel_rfl) (by kernel_rfl) (by kernel_rfl) (fun _ _ _ h => h) (Or.inr ⟨by kernel_rfl, rfl⟩) HS ?_
  simp only [Act.put, aL]
  refine wpAnyH_take (i := 11) (v := .bool false) rfl (by kernel_rfl) (by kernel_rfl) (by kernel_rfl) (fun _ _ _ h => h) (Or.inl ⟨by kernel_rfl, ?_⟩) HS ?_
  ·intro w5 hw5
   obtain ⟨d0, d1⟩ := hw5
   go_simp
  simp only [Act.put, aL]
  refine wpAnyH_take (i := 12) (v := .bool false) rfl (by kernel_rfl) (by kernel_rfl) (by kernel_rfl) (fun _ _ _ h => h) (Or.inl ⟨by kernel_rfl, ?_⟩) HS ?_
  ·intro w5 hw5
   obtain ⟨d0, d1⟩ := hw5
   go_simp
  simp only [Act.put, aL]
  refine wpAnyH_take (i := 13) (v := undef) rfl (by kernel_rfl) (by kernel_rfl) (by kernel_rfl) (fun _ _ _ h => h) (Or.inr ⟨by kernel_rfl, rfl⟩) HS ?_
  simp only [Act.put, aL]
  refine wpAnyH_take (i := 14) (v := undef) rfl (by kernel_rfl) (by kernel_rfl) (by kernel_rfl) (fun _ _ _ h => h) (Or.inr ⟨by kernel_rfl, rfl⟩) HS ?_
  simp only [Act.put, aL]
  refine wpAnyH_take (i := 15) (v := undef) rfl (by kernel_rfl) (by kernel_rfl) (by kernel_rfl) (fun _ _ _ h => h) (Or.inr ⟨by kernel_rfl, rfl⟩) HS ?_
  simp only [Act.put, aL]
  refine wpAnyH_take (i := 16) (v := undef) rfl (by kernel_rfl) (by kernel_rfl) (by kernel_rfl) (fun _ _ _ h => h) (Or.inr ⟨by kernel_rfl, rfl⟩) HS ?_
  simp only [Act.put, aL]
  refine wpAnyH_take (i := 17) (v := undef) rfl (by kernel_rfl) (by kernel_rfl) (by kernel_rfl) (fun _ _ _ h => h) (Or.inr ⟨by kernel_rfl, rfl⟩) HS ?_
  simp only [Act.put, aL]
  refine wpAnyH_take (i := 18) (v := .bool false) rfl (by kernel_rfl) (by kernel_rfl) (by kernel_rfl) (fun _ _ _ h => h) (Or.inl ⟨by kernel_rfl, ?_⟩) HS ?_
  ·intro w5 hw5
   obtain ⟨d0, d1⟩ := hw5
   go_simp
  simp only [Act.put, aL]
  refine wpAnyH_take (i := 19) (v := .bool false) rfl (by kernel_rfl) (by kernel_rfl) (by kernel_rfl) (fun _ _ _ h => h) (Or.inl ⟨by kernel_rfl, ?_⟩) HS ?_
  ·intro w5 hw5
   obtain ⟨d0, d1⟩ := hw5
   go_simp
  simp only [Act.put, aL]
  refine wpAnyH_take (i := 20) (v := undef) rfl (by kernel_rfl) (by kernel_rfl) (by kernel_rfl) (fun _ _ _ h => h) (Or.inr ⟨by kernel_rfl, rfl⟩) HS ?_
  simp only [Act.put, aL]
  refine wpAnyH_take (i := 21) (v := undef) rfl (by kernel_rfl) (by kernel_rfl) (by kernel_rfl) (fun _ _ _ h => h) (Or.inr ⟨by kernel_rfl, rfl⟩) HS ?_
  simp only [Act.put, aL]
  refine wpAnyH_take (i := 22) (v := undef) rfl (by kernel_rfl) (by kernel_rfl) (by kernel_rfl) (fun _ _ _ h => h) (Or.inr ⟨by kernel_rfl, rfl⟩) HS ?_
  simp only [Act.put, aL]
  refine wpAnyH_take (i := 23) (v := .bool false) rfl (by kernel_rfl) (by kernel_rfl) (by kernel_rfl) (fun _ _ _ h => h) (Or.inl ⟨by kernel_rfl, ?_⟩) HS ?_
  ·intro w5 hw5
   obtain ⟨d0, d1⟩ := hw5
   go_simp
  simp only [Act.put, aL]
  refine wpAnyH_take (i := 24) (v := .bool false) rfl (by kernel_rfl) (by kernel_rfl) (by kernel_rfl) (fun _ _ _ h => h) (Or.inl ⟨by kernel_rfl, ?_⟩) HS ?_
  ·intro w5 hw5
   obtain ⟨d0, d1⟩ := hw5
   go_simp
  simp only [Act.put, aL]
  refine wpAnyH_done (by kernel_rfl) ?_ _
  go_wp2_with fail
  go_ret
  exact ⟨rfl, HK0.out.trans' ((Keeps.refl [] W0).drew)⟩
 ·have hg0 : decide ((0 : Int) < (an : Int)) = true := by simp; omega
  have hg0b : (0 : Int) < (an : Int) := by omega
  rw [show decide (0 < an) = true by simp; omega] at hr
  have H0 : Hid (0 < an) := h0
  clear h0 hn hnc
  cases q1
  ·obtain rfl : r = false := by rw [← hr]; rfl
   have H1 : Hid (¬ s = z) := by simpa [Hid] using hq1
   clear hr hq1 HMB HIO
   go_enter Tryz.func187, Tryz.ntmps187
   go_wp2_with fail
   clear hW0 hg
   refine wp_region_held_drew (S := (fun X => X.cell? ⟨g, 0, none⟩ = some (.string ⟨s.toArray⟩) ∧ X.cell? ⟨g, 1, none⟩ = some (.slice aA an ac))) (by kernel_rfl) (HF.out _ ((Keeps.refl [] W0).drew)) ?_
   intro HS
   refine wpAnyH_take (i := 0) (v := .pointer (some ⟨g, 1, none⟩)) rfl (by kernel_rfl) (by kernel_rfl) (by kernel_rfl) (fun _ _ _ h => h) (Or.inl ⟨by kernel_rfl, ?_⟩) HS ?_
   ·intro w5 hw5
    obtain ⟨d0, d1⟩ := hw5
    go_simp
   simp only [Act.put, aL]
   refine wpAnyH_take (i := 1) (v := .slice aA an ac) rfl (by kernel_rfl) (by kernel_rfl) (by kernel_rfl) (fun _ _ _ h => h) (Or.inl ⟨by kernel_rfl, ?_⟩) HS ?_
   ·intro w5 hw5
    obtain ⟨d0, d1⟩ := hw5
    go_simp
   simp only [Act.put, aL]
   refine wpAnyH_take (i := 2) (v := .int .i64 (an : Int)) rfl (by kernel_rfl) (by kernel_rfl) (by kernel_rfl) (fun _ _ _ h => h) (Or.inl ⟨by kernel_rfl, ?_⟩) HS ?_
   ·intro w5 hw5
    obtain ⟨d0, d1⟩ := hw5
    go_simp
   simp only [Act.put, aL]
   refine wpAnyH_take (i := 3) (v := .bool true) rfl (by kernel_rfl) (by kernel_rfl) (by kernel_rfl) (fun _ _ _ h => h) (Or.inl ⟨by kernel_rfl, ?_⟩) HS ?_
   ·intro w5 hw5
    obtain ⟨d0, d1⟩ := hw5
    go_simp
    first | done | exact H0.out
   simp only [Act.put, aL]
   refine wpAnyH_take (i := 4) (v := .bool true) rfl (by kernel_rfl) (by kernel_rfl) (by kernel_rfl) (fun _ _ _ h => h) (Or.inl ⟨by kernel_rfl, ?_⟩) HS ?_
   ·intro w5 hw5
    obtain ⟨d0, d1⟩ := hw5
    go_simp
   simp only [Act.put, aL]
   refine wpAnyH_take (i := 5) (v := .pointer (some ⟨g, 0, none⟩)) rfl (by kernel_rfl) (by kernel_rfl) (by kernel_rfl) (fun _ _ _ h => h) (Or.inl ⟨by kernel_rfl, ?_⟩) HS ?_
   ·intro w5 hw5
    obtain ⟨d0, d1⟩ := hw5
    go_simp
   simp only [Act.put, aL]
   refine wpAnyH_take (i := 6) (v := .string ⟨s.toArray⟩) rfl (by kernel_rfl) (by kernel_rfl) (by kernel_rfl) (fun _ _ _ h => h) (Or.inl ⟨by kernel_rfl, ?_⟩) HS ?_
   ·intro w5 hw5
    obtain ⟨d0, d1⟩ := hw5
    go_simp
   simp only [Act.put, aL]
   refine wpAnyH_take (i := 7) (v := .pointer (some ⟨g, 0, none⟩)) rfl (by kernel_rfl) (by kernel_rfl) (by kernel_rfl) (fun _ _ _ h => h) (Or.inl ⟨by kernel_rfl, ?_⟩) HS ?_
   ·intro w5 hw5
    obtain ⟨d0, d1⟩ := hw5
    go_simp
   simp only [Act.put, aL]
   refine wpAnyH_take (i := 8) (v := .string ⟨s.toArray⟩) rfl (by kernel_rfl) (by kernel_rfl) (by kernel_rfl) (fun _ _ _ h => h) (Or.inl ⟨by kernel_rfl, ?_⟩) HS ?_
   ·intro w5 hw5
    obtain ⟨d0, d1⟩ := hw5
    go_simp
   simp only [Act.put, aL]
   refine wpAnyH_ready (rs := [9]) (by kernel_rfl) (by simp) ?_
   refine AllReadyH.cons rfl (fun K hK => ?_) AllReadyH.nil
   go_simp
   refine (HSM.out _).mono ?_
   rintro e w1 ⟨rfl, hk1⟩
   have K1 : Hid (Keeps [] W0 w1) := Keeps.trans' ((Keeps.refl [] W0).drew) hk1
   clear hk1
   refine hK.out _ _ (HF.out _ K1.out) (fun HS => ?_)
   clear hK K
   refine wpAnyH_take (i := 10) (v := .bool false) rfl (by kernel_rfl) (by kernel_rfl) (by kernel_rfl) (fun _ _ _ h => h) (Or.inl ⟨by kernel_rfl, ?_⟩) HS ?_
   ·intro w5 hw5
    obtain ⟨d0, d1⟩ := hw5
    go_simp
    first | done | exact H1.out | (trace_state; simpa using H1.out)
   simp only [Act.put, aL]
   refine wpAnyH_take (i := 11) (v := .bool false) rfl (by kernel_rfl) (by kernel_rfl) (by kernel_rfl) (fun _ _ _ h => h) (Or.inl ⟨by kernel_rfl, ?_⟩) HS ?_
   ·intro w5 hw5
    obtain ⟨d0, d1⟩ := hw5
    go_simp
   simp only [Act.put, aL]
   refine wpAnyH_take (i := 12) (v := .bool false) rfl (by kernel_rfl) (by kernel_rfl) (by kernel_rfl) (fun _ _ _ h => h) (Or.inl ⟨by kernel_rfl, ?_⟩) HS ?_
   ·intro w5 hw5
    obtain ⟨d0, d1⟩ := hw5
    go_simp
   simp only [Act.put, aL]
   refine wpAnyH_take (i := 13) (v := undef) rfl (by kernel_rfl) (by kernel_rfl) (by kernel_rfl) (fun _ _ _ h => h) (Or.inr ⟨by kernel_rfl, rfl⟩) HS ?_
   simp only [Act.put, aL]
   refine wpAnyH_take (i := 14) (v := undef) rfl (by kernel_rfl) (by kernel_rfl) (by kernel_rfl) (fun _ _ _ h => h) (Or.inr ⟨by kernel_rfl, rfl⟩) HS ?_
   simp only [Act.put, aL]
   refine wpAnyH_take (i := 15) (v := undef) rfl (by kernel_rfl) (by kernel_rfl) (by kernel_rfl) (fun _ _ _ h => h) (Or.inr ⟨by kernel_rfl, rfl⟩) HS ?_
   simp only [Act.put, aL]
   refine wpAnyH_take (i := 16) (v := undef) rfl (by kernel_rfl) (by kernel_rfl) (by kernel_rfl) (fun _ _ _ h => h) (Or.inr ⟨by kernel_rfl, rfl⟩) HS ?_
   simp only [Act.put, aL]
   refine wpAnyH_take (i := 17) (v := undef) rfl (by kernel_rfl) (by kernel_rfl) (by kernel_rfl) (fun _ _ _ h => h) (Or.inr ⟨by kernel_rfl, rfl⟩) HS ?_
   simp only [Act.put, aL]
   refine wpAnyH_take (i := 18) (v := .bool false) rfl (by kernel_rfl) (by kernel_rfl) (by kernel_rfl) (fun _ _ _ h => h) (Or.inl ⟨by kernel_rfl, ?_⟩) HS ?_
   ·intro w5 hw5
    obtain ⟨d0, d1⟩ := hw5
    go_simp
   simp only [Act.put, aL]
   refine wpAnyH_take (i := 19) (v := .bool false) rfl (by kernel_rfl) (by kernel_rfl) (by kernel_rfl) (fun _ _ _ h => h) (Or.inl ⟨by kernel_rfl, ?_⟩) HS ?_
   ·intro w5 hw5
    obtain ⟨d0, d1⟩ := hw5
    go_simp
   simp only [Act.put, aL]
   refine wpAnyH_take (i := 20) (v := undef) rfl (by kernel_rfl) (by kernel_rfl) (by kernel_rfl) (fun _ _ _ h => h) (Or.inr ⟨by kernel_rfl, rfl⟩) HS ?_
   simp only [Act.put, aL]
   refine wpAnyH_take (i := 21) (v := undef) rfl (by kernel_rfl) (by kernel_rfl) (by kernel_rfl) (fun _ _ _ h => h) (Or.inr ⟨by kernel_rfl, rfl⟩) HS ?_
   simp only [Act.put, aL]
   refine wpAnyH_take (i := 22) (v := undef) rfl (by kernel_rfl) (by kernel_rfl) (by kernel_rfl) (fun _ _ _ h => h) (Or.inr ⟨by kernel_rfl, rfl⟩) HS ?_
   simp only [Act.put, aL]
   refine wpAnyH_take (i := 23) (v := .bool false) rfl (by kernel_rfl) (by kernel_rfl) (by kernel_rfl) (fun _ _ _ h => h) (Or.inl ⟨by kernel_rfl, ?_⟩) HS ?_
   ·intro w5 hw5
    obtain ⟨d0, d1⟩ := hw5
    go_simp
   simp only [Act.put, aL]
   refine wpAnyH_take (i := 24) (v := .bool false) rfl (by kernel_rfl) (by kernel_rfl) (by kernel_rfl) (fun _ _ _ h => h) (Or.inl ⟨by kernel_rfl, ?_⟩) HS ?_
   ·intro w5 hw5
    obtain ⟨d0, d1⟩ := hw5
    go_simp
   simp only [Act.put, aL]
   refine wpAnyH_done (by kernel_rfl) ?_ _
   go_wp2_with fail
   go_ret
   exact ⟨rfl, HK0.out.trans' K1.out⟩
  ·cases q2
   ·obtain rfl : r = false := by rw [← hr]; rfl
    have H1 : Hid (s = z) := by simpa [Hid] using hq1
    clear hr hq1 HIO
    go_enter Tryz.func187, Tryz.ntmps187
    go_wp2_with fail
    clear hW0 hg
    refine wp_region_held_drew (S := (fun X => X.cell? ⟨g, 0, none⟩ = some (.string ⟨s.toArray⟩) ∧ X.cell? ⟨g, 1, none⟩ = some (.slice aA an ac))) (by kernel_rfl) (HF.out _ ((Keeps.refl [] W0).drew)) ?_
    intro HS
    refine wpAnyH_take (i := 0) (v := .pointer (some ⟨g, 1, none⟩)) rfl (by kernel_rfl) (by kernel_rfl) (by kernel_rfl) (fun _ _ _ h => h) (Or.inl ⟨by kernel_rfl, ?_⟩) HS ?_
    ·intro w5 hw5
     obtain ⟨d0, d1⟩ := hw5
     go_simp
    simp only [Act.put, aL]
    refine wpAnyH_take (i := 1) (v := .slice aA an ac) rfl (by kernel_rfl) (by kernel_rfl) (by kernel_rfl) (fun _ _ _ h => h) (Or.inl ⟨by kernel_rfl, ?_⟩) HS ?_
    ·intro w5 hw5
     obtain ⟨d0, d1⟩ := hw5
     go_simp
    simp only [Act.put, aL]
    refine wpAnyH_take (i := 2) (v := .int .i64 (an : Int)) rfl (by kernel_rfl) (by kernel_rfl) (by kernel_rfl) (fun _ _ _ h => h) (Or.inl ⟨by kernel_rfl, ?_⟩) HS ?_
    ·intro w5 hw5
     obtain ⟨d0, d1⟩ := hw5
     go_simp
    simp only [Act.put, aL]
    refine wpAnyH_take (i := 3) (v := .bool true) rfl (by kernel_rfl) (by kernel_rfl) (by kernel_rfl) (fun _ _ _ h => h) (Or.inl ⟨by kernel_rfl, ?_⟩) HS ?_
    ·intro w5 hw5
     obtain ⟨d0, d1⟩ := hw5
     go_simp
     first | done | exact H0.out
    simp only [Act.put, aL]
    refine wpAnyH_take (i := 4) (v := .bool true) rfl (by kernel_rfl) (by kernel_rfl) (by kernel_rfl) (fun _ _ _ h => h) (Or.inl ⟨by kernel_rfl, ?_⟩) HS ?_
    ·intro w5 hw5
     obtain ⟨d0, d1⟩ := hw5
     go_simp
    simp only [Act.put, aL]
    refine wpAnyH_take (i := 5) (v := .pointer (some ⟨g, 0, none⟩)) rfl (by kernel_rfl) (by kernel_rfl) (by kernel_rfl) (fun _ _ _ h => h) (Or.inl ⟨by kernel_rfl, ?_⟩) HS ?_
    ·intro w5 hw5
     obtain ⟨d0, d1⟩ := hw5
     go_simp
    simp only [Act.put, aL]
    refine wpAnyH_take (i := 6) (v := .string ⟨s.toArray⟩) rfl (by kernel_rfl) (by kernel_rfl) (by kernel_rfl) (fun _ _ _ h => h) (Or.inl ⟨by kernel_rfl, ?_⟩) HS ?_
    ·intro w5 hw5
     obtain ⟨d0, d1⟩ := hw5
     go_simp
    simp only [Act.put, aL]
    refine wpAnyH_take (i := 7) (v := .pointer (some ⟨g, 0, none⟩)) rfl (by kernel_rfl) (by kernel_rfl) (by kernel_rfl) (fun _ _ _ h => h) (Or.inl ⟨by kernel_rfl, ?_⟩) HS ?_
    ·intro w5 hw5
     obtain ⟨d0, d1⟩ := hw5
     go_simp
    simp only [Act.put, aL]
    refine wpAnyH_take (i := 8) (v := .string ⟨s.toArray⟩) rfl (by kernel_rfl) (by kernel_rfl) (by kernel_rfl) (fun _ _ _ h => h) (Or.inl ⟨by kernel_rfl, ?_⟩) HS ?_
    ·intro w5 hw5
     obtain ⟨d0, d1⟩ := hw5
     go_simp
    simp only [Act.put, aL]
    refine wpAnyH_ready (rs := [9]) (by kernel_rfl) (by simp) ?_
    refine AllReadyH.cons rfl (fun K hK => ?_) AllReadyH.nil
    go_simp
    refine (HSM.out _).mono ?_
    rintro e w1 ⟨rfl, hk1⟩
    have K1 : Hid (Keeps [] W0 w1) := Keeps.trans' ((Keeps.refl [] W0).drew) hk1
    clear hk1
    refine hK.out _ _ (HF.out _ K1.out) (fun HS => ?_)
    clear hK K
    refine wpAnyH_take (i := 10) (v := .bool true) rfl (by kernel_rfl) (by kernel_rfl) (by kernel_rfl) (fun _ _ _ h => h) (Or.inl ⟨by kernel_rfl, ?_⟩) HS ?_
    ·intro w5 hw5
     obtain ⟨d0, d1⟩ := hw5
     go_simp
     first | done | exact H1.out | (trace_state; simpa using H1.out)
    simp only [Act.put, aL]
    refine wpAnyH_take (i := 11) (v := .bool true) rfl (by kernel_rfl) (by kernel_rfl) (by kernel_rfl) (fun _ _ _ h => h) (Or.inl ⟨by kernel_rfl, ?_⟩) HS ?_
    ·intro w5 hw5
     obtain ⟨d0, d1⟩ := hw5
     go_simp
    simp only [Act.put, aL]
    refine wpAnyH_take (i := 12) (v := .bool true) rfl (by kernel_rfl) (by kernel_rfl) (by kernel_rfl) (fun _ _ _ h => h) (Or.inl ⟨by kernel_rfl, ?_⟩) HS ?_
    ·intro w5 hw5
     obtain ⟨d0, d1⟩ := hw5
     go_simp
    simp only [Act.put, aL]
    refine wpAnyH_take (i := 13) (v := .pointer (some ⟨g, 0, none⟩)) rfl (by kernel_rfl) (by kernel_rfl) (by kernel_rfl) (fun _ _ _ h => h) (Or.inl ⟨by kernel_rfl, ?_⟩) HS ?_
    ·intro w5 hw5
     obtain ⟨d0, d1⟩ := hw5
     go_simp
    simp only [Act.put, aL]
    refine wpAnyH_take (i := 14) (v := .string ⟨s.toArray⟩) rfl (by kernel_rfl) (by kernel_rfl) (by kernel_rfl) (fun _ _ _ h => h) (Or.inl ⟨by kernel_rfl, ?_⟩) HS ?_
    ·intro w5 hw5
     obtain ⟨d0, d1⟩ := hw5
     go_simp
    simp only [Act.put, aL]
    refine wpAnyH_take (i := 15) (v := .pointer (some ⟨g, 1, none⟩)) rfl (by kernel_rfl) (by kernel_rfl) (by kernel_rfl) (fun _ _ _ h => h) (Or.inl ⟨by kernel_rfl, ?_⟩) HS ?_
    ·intro w5 hw5
     obtain ⟨d0, d1⟩ := hw5
     go_simp
    simp only [Act.put, aL]
    refine wpAnyH_take (i := 16) (v := .slice aA an ac) rfl (by kernel_rfl) (by kernel_rfl) (by kernel_rfl) (fun _ _ _ h => h) (Or.inl ⟨by kernel_rfl, ?_⟩) HS ?_
    ·intro w5 hw5
     obtain ⟨d0, d1⟩ := hw5
     go_simp
    simp only [Act.put, aL]
    refine wpAnyH_ready (rs := [17]) (by kernel_rfl) (by simp) ?_
    refine AllReadyH.cons rfl (fun K hK => ?_) AllReadyH.nil
    go_simp
    refine (HMB.out _ K1.out).mono ?_
    rintro e w2 ⟨rfl, hk2⟩
    have K2 : Hid (Keeps [] W0 w2) := Keeps.trans' K1.out hk2
    clear hk2
    refine hK.out _ _ (HF.out _ K2.out) (fun HS => ?_)
    clear hK K
    refine wpAnyH_take (i := 18) (v := .bool false) rfl (by kernel_rfl) (by kernel_rfl) (by kernel_rfl) (fun _ _ _ h => h) (Or.inl ⟨by kernel_rfl, ?_⟩) HS ?_
    ·intro w5 hw5
     obtain ⟨d0, d1⟩ := hw5
     go_simp
    simp only [Act.put, aL]
    refine wpAnyH_take (i := 19) (v := .bool false) rfl (by kernel_rfl) (by kernel_rfl) (by kernel_rfl) (fun _ _ _ h => h) (Or.inl ⟨by kernel_rfl, ?_⟩) HS ?_
    ·intro w5 hw5
     obtain ⟨d0, d1⟩ := hw5
     go_simp
    simp only [Act.put, aL]
    refine wpAnyH_take (i := 20) (v := undef) rfl (by kernel_rfl) (by kernel_rfl) (by kernel_rfl) (fun _ _ _ h => h) (Or.inr ⟨by kernel_rfl, rfl⟩) HS ?_
    simp only [Act.put, aL]
    refine wpAnyH_take (i := 21) (v := undef) rfl (by kernel_rfl) (by kernel_rfl) (by kernel_rfl) (fun _ _ _ h => h) (Or.inr ⟨by kernel_rfl, rfl⟩) HS ?_
    simp only [Act.put, aL]
    refine wpAnyH_take (i := 22) (v := undef) rfl (by kernel_rfl) (by kernel_rfl) (by kernel_rfl) (fun _ _ _ h => h) (Or.inr ⟨by kernel_rfl, rfl⟩) HS ?_
    simp only [Act.put, aL]
    refine wpAnyH_take (i := 23) (v := .bool false) rfl (by kernel_rfl) (by kernel_rfl) (by kernel_rfl) (fun _ _ _ h => h) (Or.inl ⟨by kernel_rfl, ?_⟩) HS ?_
    ·intro w5 hw5
     obtain ⟨d0, d1⟩ := hw5
     go_simp
    simp only [Act.put, aL]
    refine wpAnyH_take (i := 24) (v := .bool false) rfl (by kernel_rfl) (by kernel_rfl) (by kernel_rfl) (fun _ _ _ h => h) (Or.inl ⟨by kernel_rfl, ?_⟩) HS ?_
    ·intro w5 hw5
     obtain ⟨d0, d1⟩ := hw5
     go_simp
    simp only [Act.put, aL]
    refine wpAnyH_done (by kernel_rfl) ?_ _
    go_wp2_with fail
    go_ret
    exact ⟨rfl, HK0.out.trans' K2.out⟩
   ·obtain rfl : r = q3 := by rw [← hr]; simp
    have H1 : Hid (s = z) := by simpa [Hid] using hq1
    clear hr hq1
    go_enter Tryz.func187, Tryz.ntmps187
    go_wp2_with fail
    clear hW0 hg
    refine wp_region_held_drew (S := (fun X => X.cell? ⟨g, 0, none⟩ = some (.string ⟨s.toArray⟩) ∧ X.cell? ⟨g, 1, none⟩ = some (.slice aA an ac))) (by kernel_rfl) (HF.out _ ((Keeps.refl [] W0).drew)) ?_
    intro HS
    refine wpAnyH_take (i := 0) (v := .pointer (some ⟨g, 1, none⟩)) rfl (by kernel_rfl) (by kernel_rfl) (by kernel_rfl) (fun _ _ _ h => h) (Or.inl ⟨by kernel_rfl, ?_⟩) HS ?_
    ·intro w5 hw5
     obtain ⟨d0, d1⟩ := hw5
     go_simp
    simp only [Act.put, aL]
    refine wpAnyH_take (i := 1) (v := .slice aA an ac) rfl (by kernel_rfl) (by kernel_rfl) (by kernel_rfl) (fun _ _ _ h => h) (Or.inl ⟨by kernel_rfl, ?_⟩) HS ?_
    ·intro w5 hw5
     obtain ⟨d0, d1⟩ := hw5
     go_simp
    simp only [Act.put, aL]
    refine wpAnyH_take (i := 2) (v := .int .i64 (an : Int)) rfl (by kernel_rfl) (by kernel_rfl) (by kernel_rfl) (fun _ _ _ h => h) (Or.inl ⟨by kernel_rfl, ?_⟩) HS ?_
    ·intro w5 hw5
     obtain ⟨d0, d1⟩ := hw5
     go_simp
    simp only [Act.put, aL]
    refine wpAnyH_take (i := 3) (v := .bool true) rfl (by kernel_rfl) (by kernel_rfl) (by kernel_rfl) (fun _ _ _ h => h) (Or.inl ⟨by kernel_rfl, ?_⟩) HS ?_
    ·intro w5 hw5
     obtain ⟨d0, d1⟩ := hw5
     go_simp
     first | done | exact H0.out
    simp only [Act.put, aL]
    refine wpAnyH_take (i := 4) (v := .bool true) rfl (by kernel_rfl) (by kernel_rfl) (by kernel_rfl) (fun _ _ _ h => h) (Or.inl ⟨by kernel_rfl, ?_⟩) HS ?_
    ·intro w5 hw5
     obtain ⟨d0, d1⟩ := hw5
     go_simp
    simp only [Act.put, aL]
    refine wpAnyH_take (i := 5) (v := .pointer (some ⟨g, 0, none⟩)) rfl (by kernel_rfl) (by kernel_rfl) (by kernel_rfl) (fun _ _ _ h => h) (Or.inl ⟨by kernel_rfl, ?_⟩) HS ?_
    ·intro w5 hw5
     obtain ⟨d0, d1⟩ := hw5
     go_simp
    simp only [Act.put, aL]
    refine wpAnyH_take (i := 6) (v := .string ⟨s.toArray⟩) rfl (by kernel_rfl) (by kernel_rfl) (by kernel_rfl) (fun _ _ _ h => h) (Or.inl ⟨by kernel_rfl, ?_⟩) HS ?_
    ·intro w5 hw5
     obtain ⟨d0, d1⟩ := hw5
     go_simp
    simp only [Act.put, aL]
    refine wpAnyH_take (i := 7) (v := .pointer (some ⟨g, 0, none⟩)) rfl (by kernel_rfl) (by kernel_rfl) (by kernel_rfl) (fun _ _ _ h => h) (Or.inl ⟨by kernel_rfl, ?_⟩) HS ?_
    ·intro w5 hw5
     obtain ⟨d0, d1⟩ := hw5
     go_simp
    simp only [Act.put, aL]
    refine wpAnyH_take (i := 8) (v := .string ⟨s.toArray⟩) rfl (by kernel_rfl) (by kernel_rfl) (by kernel_rfl) (fun _ _ _ h => h) (Or.inl ⟨by kernel_rfl, ?_⟩) HS ?_
    ·intro w5 hw5
     obtain ⟨d0, d1⟩ := hw5
     go_simp
    simp only [Act.put, aL]
    refine wpAnyH_ready (rs := [9]) (by kernel_rfl) (by simp) ?_
    refine AllReadyH.cons rfl (fun K hK => ?_) AllReadyH.nil
    go_simp
    refine (HSM.out _).mono ?_
    rintro e w1 ⟨rfl, hk1⟩
    have K1 : Hid (Keeps [] W0 w1) := Keeps.trans' ((Keeps.refl [] W0).drew) hk1
    clear hk1
    refine hK.out _ _ (HF.out _ K1.out) (fun HS => ?_)
    clear hK K
    refine wpAnyH_take (i := 10) (v := .bool true) rfl (by kernel_rfl) (by kernel_rfl) (by kernel_rfl) (fun _ _ _ h => h) (Or.inl ⟨by kernel_rfl, ?_⟩) HS ?_
    ·intro w5 hw5
     obtain ⟨d0, d1⟩ := hw5
     go_simp
     first | done | exact H1.out | (trace_state; simpa using H1.out)
    simp only [Act.put, aL]
    refine wpAnyH_take (i := 11) (v := .bool true) rfl (by kernel_rfl) (by kernel_rfl) (by kernel_rfl) (fun _ _ _ h => h) (Or.inl ⟨by kernel_rfl, ?_⟩) HS ?_
    ·intro w5 hw5
     obtain ⟨d0, d1⟩ := hw5
     go_simp
    simp only [Act.put, aL]
    refine wpAnyH_take (i := 12) (v := .bool true) rfl (by kernel_rfl) (by kernel_rfl) (by kernel_rfl) (fun _ _ _ h => h) (Or.inl ⟨by kernel_rfl, ?_⟩) HS ?_
    ·intro w5 hw5
     obtain ⟨d0, d1⟩ := hw5
     go_simp
    simp only [Act.put, aL]
    refine wpAnyH_take (i := 13) (v := .pointer (some ⟨g, 0, none⟩)) rfl (by kernel_rfl) (by kernel_rfl) (by kernel_rfl) (fun _ _ _ h => h) (Or.inl ⟨by kernel_rfl, ?_⟩) HS ?_
    ·intro w5 hw5
     obtain ⟨d0, d1⟩ := hw5
     go_simp
    simp only [Act.put, aL]
    refine wpAnyH_take (i := 14) (v := .string ⟨s.toArray⟩) rfl (by kernel_rfl) (by kernel_rfl) (by kernel_rfl) (fun _ _ _ h => h) (Or.inl ⟨by kernel_rfl, ?_⟩) HS ?_
    ·intro w5 hw5
     obtain ⟨d0, d1⟩ := hw5
     go_simp
    simp only [Act.put, aL]
    refine wpAnyH_take (i := 15) (v := .pointer (some ⟨g, 1, none⟩)) rfl (by kernel_rfl) (by kernel_rfl) (by kernel_rfl) (fun _ _ _ h => h) (Or.inl ⟨by kernel_rfl, ?_⟩) HS ?_
    ·intro w5 hw5
     obtain ⟨d0, d1⟩ := hw5
     go_simp
    simp only [Act.put, aL]
    refine wpAnyH_take (i := 16) (v := .slice aA an ac) rfl (by kernel_rfl) (by kernel_rfl) (by kernel_rfl) (fun _ _ _ h => h) (Or.inl ⟨by kernel_rfl, ?_⟩) HS ?_
    ·intro w5 hw5
     obtain ⟨d0, d1⟩ := hw5
     go_simp
    simp only [Act.put, aL]
    refine wpAnyH_ready (rs := [17]) (by kernel_rfl) (by simp) ?_
    refine AllReadyH.cons rfl (fun K hK => ?_) AllReadyH.nil
    go_simp
    refine (HMB.out _ K1.out).mono ?_
    rintro e w2 ⟨rfl, hk2⟩
    have K2 : Hid (Keeps [] W0 w2) := Keeps.trans' K1.out hk2
    clear hk2
    refine hK.out _ _ (HF.out _ K2.out) (fun HS => ?_)
    clear hK K
    refine wpAnyH_take (i := 18) (v := .bool true) rfl (by kernel_rfl) (by kernel_rfl) (by kernel_rfl) (fun _ _ _ h => h) (Or.inl ⟨by kernel_rfl, ?_⟩) HS ?_
    ·intro w5 hw5
     obtain ⟨d0, d1⟩ := hw5
     go_simp
    simp only [Act.put, aL]
    refine wpAnyH_take (i := 19) (v := .bool true) rfl (by kernel_rfl) (by kernel_rfl) (by kernel_rfl) (fun _ _ _ h => h) (Or.inl ⟨by kernel_rfl, ?_⟩) HS ?_
    ·intro w5 hw5
     obtain ⟨d0, d1⟩ := hw5
     go_simp
    simp only [Act.put, aL]
    refine wpAnyH_take (i := 20) (v := .pointer (some ⟨g, 1, none⟩)) rfl (by kernel_rfl) (by kernel_rfl) (by kernel_rfl) (fun _ _ _ h => h) (Or.inl ⟨by kernel_rfl, ?_⟩) HS ?_
    ·intro w5 hw5
     obtain ⟨d0, d1⟩ := hw5
     go_simp
    simp only [Act.put, aL]
    refine wpAnyH_take (i := 21) (v := .slice aA an ac) rfl (by kernel_rfl) (by kernel_rfl) (by kernel_rfl) (fun _ _ _ h => h) (Or.inl ⟨by kernel_rfl, ?_⟩) HS ?_
    ·intro w5 hw5
     obtain ⟨d0, d1⟩ := hw5
     go_simp
    simp only [Act.put, aL]
    refine wpAnyH_ready (rs := [22]) (by kernel_rfl) (by simp) ?_
    refine AllReadyH.cons rfl (fun K hK => ?_) AllReadyH.nil
    go_simp
    refine (HIO.out _ K2.out).mono ?_
    rintro e w3 ⟨rfl, hk3⟩
    have K3 : Hid (Keeps [] W0 w3) := Keeps.trans' K2.out hk3
    clear hk3
    refine hK.out _ _ (HF.out _ K3.out) (fun HS => ?_)
    clear hK K
    refine wpAnyH_take (i := 23) (v := .bool r) rfl (by kernel_rfl) (by kernel_rfl) (by kernel_rfl) (fun _ _ _ h => h) (Or.inl ⟨by kernel_rfl, ?_⟩) HS ?_
    ·intro w5 hw5
     obtain ⟨d0, d1⟩ := hw5
     go_simp
    simp only [Act.put, aL]
    refine wpAnyH_take (i := 24) (v := .bool r) rfl (by kernel_rfl) (by kernel_rfl) (by kernel_rfl) (fun _ _ _ h => h) (Or.inl ⟨by kernel_rfl, ?_⟩) HS ?_
    ·intro w5 hw5
     obtain ⟨d0, d1⟩ := hw5
     go_simp
    simp only [Act.put, aL]
    refine wpAnyH_done (by kernel_rfl) ?_ _
    go_wp2_with fail
    go_ret
    exact ⟨rfl, HK0.out.trans' K3.out⟩
end Go.Proofs.YtbfebljahjmjfaaGreatDoor
