/- Texts of one proof, laid together: F52. -/
import Derived.Test.YtoggddoeanfjeaaGreatDoorMB6
import Derived.Test.YtoggddoeanfjeaaGreatDoorM08
import Derived.BigQuiet
/- filter: the document's alone, left, Right; walked. -/
namespace Go.Proofs.YtoggddoeanfjeaaGreatDoor
open Go.RowKit Go.Shelf
set_option linter.unusedVariables false
set_option linter.unusedSimpArgs false
set_option maxRecDepth 100000

set_option maxHeartbeats 8000000 in
theorem ralone8_is (h : FH) (w : World) (hs : h.s.length ≤ 9223372036854775807) (hv : h.v.length ≤ 9223372036854775807) :
    Calls Tryz.prog 61 #[h.val] w fun e w' => e = .returned (.bool (aloneH h.k h.lb h.s h.v)) ∧ Keeps [] w w' := by
  obtain ⟨k, B, n, c, s, v⟩ := h
  dsimp only at hs hv ⊢
  have HNM := Lib.hid (fun X => rname_is s X hs)
  have HK : Hid (Keeps [] w (w.alloc (.cells #[.int .i64 k, .slice B n c, .string ⟨s.toArray⟩, .string ⟨v.toArray⟩] 25))) := (Keeps.refl [] w).alloc _
  obtain ⟨⟨z0, z1, z2, z3⟩, _⟩ := four_facts8 (heap_new8 w (.cells #[.int .i64 k, .slice B n c, .string ⟨s.toArray⟩, .string ⟨v.toArray⟩] 25))
  obtain ⟨P, hP⟩ : ∃ P, aloneH k n s v = P := ⟨_, rfl⟩
  have HP := Lib.hid hP
  rw [hP]
  clear hP
  unfold aloneH at HP
  have hse : (s == ([] : Txt)) = s.isEmpty := by cases s <;> rfl
  have hve : (v == ([] : Txt)) = v.isEmpty := by cases v <;> rfl
  obtain ⟨hs1, hs2, hs3⟩ := tx_beq s [] s.isEmpty hse
  obtain ⟨hv1, hv2, hv3⟩ := tx_beq v [] v.isEmpty hve
  obtain ⟨q2, hq2⟩ : ∃ q, nameT s = q := ⟨_, rfl⟩
  rw [hq2] at HP HNM
  obtain ⟨vl, hvl⟩ : ∃ n, v.length = n := ⟨_, rfl⟩
  have hvz : (⟨v.toArray⟩ : ByteArray).size = vl := hvl
  have HVL := Lib.hid hvl
  rw [hvl] at hv
  unfold FH.val tv at *
  dsimp only
  clear hq2 hse hve hs hvl
  obtain ⟨a, ha⟩ : ∃ a, s.isEmpty = a := ⟨_, rfl⟩
  obtain ⟨b, hb⟩ : ∃ b, v.isEmpty = b := ⟨_, rfl⟩
  rw [ha] at HP hs1 hs2 hs3
  rw [hb] at HP hv1 hv2 hv3
  by_cases hk1 : k = 1
  · subst hk1
    rw [if_pos (by simp)] at HP
    cases a
    · go_enter Tryz.func61, Tryz.ntmps61
      go_wp2_with fail
      go_ret
      rw [← HP.out]
      exact ⟨by first | (simp; done) | (simp; omega), HK.out⟩
    · cases b
      · go_enter Tryz.func61, Tryz.ntmps61
        go_wp2_with fail
        go_ret
        rw [← HP.out]
        exact ⟨by first | (simp; done) | (simp; omega), HK.out⟩
      · go_enter Tryz.func61, Tryz.ntmps61
        go_wp2_with fail
        go_ret
        rw [← HP.out]
        exact ⟨by first | (simp; done) | (simp; omega), HK.out⟩
  have hkb1 : (k == 1) = false := by simpa using hk1
  by_cases hk2 : k = 2
  · subst hk2
    rw [if_pos (by simp)] at HP
    cases a
    · go_enter Tryz.func61, Tryz.ntmps61
      go_wp2_with fail
      go_ret
      rw [← HP.out]
      exact ⟨by first | (simp; done) | (simp; omega), HK.out⟩
    · cases b
      · go_enter Tryz.func61, Tryz.ntmps61
        go_wp2_with fail
        go_ret
        rw [← HP.out]
        exact ⟨by first | (simp; done) | (simp; omega), HK.out⟩
      · go_enter Tryz.func61, Tryz.ntmps61
        go_wp2_with fail
        go_ret
        rw [← HP.out]
        exact ⟨by first | (simp; done) | (simp; omega), HK.out⟩
  have hkb2 : (k == 2) = false := by simpa using hk2
  by_cases hk3 : k = 3
  · subst hk3
    rw [if_neg (by simp), if_pos rfl] at HP
    cases a
    · go_enter Tryz.func61, Tryz.ntmps61
      go_wp2_with fail
      go_ret
      rw [← HP.out]
      exact ⟨by first | (simp; done) | (simp; omega), HK.out⟩
    · cases b
      · go_enter Tryz.func61, Tryz.ntmps61
        go_wp2_with fail
        go_ret
        rw [← HP.out]
        exact ⟨by first | (simp; done) | (simp; omega), HK.out⟩
      · by_cases hn : n = 1
        · subst hn
          go_enter Tryz.func61, Tryz.ntmps61
          go_wp2_with fail
          go_ret
          rw [← HP.out]
          exact ⟨by first | (simp; done) | (simp; omega), HK.out⟩
        · have hni : ¬ (n : Int) = 1 := by omega
          have hnb : ((n : Int) == 1) = false := by simpa using hni
          rw [show decide (n = 1) = false by simpa using hn] at HP
          go_enter Tryz.func61, Tryz.ntmps61
          go_wp2_with fail
          go_ret
          rw [← HP.out]
          exact ⟨by first | (simp; done) | (simp; omega), HK.out⟩
  have hkb3 : (k == 3) = false := by simpa using hk3
  by_cases hk4 : k = 4
  · subst hk4
    rw [if_neg (by simp), if_neg (by simp), if_pos (by simp)] at HP
    cases q2
    · go_enter Tryz.func61, Tryz.ntmps61
      go_wp2_with fail
      refine (HNM.out _).mono ?_
      rintro e w1 ⟨rfl, rfl⟩
      go_wp2_with fail
      go_ret
      rw [← HP.out]
      exact ⟨by first | (simp; done) | (simp; omega), HK.out⟩
    · by_cases hn : n = 0
      · subst hn
        by_cases hv1 : 1 ≤ vl
        · have hv1i : (1 : Int) ≤ (vl : Int) := by omega
          by_cases hv2 : vl ≤ 2048
          · have hv2i : (vl : Int) ≤ 2048 := by omega
            rw [show valOk v = true by unfold valOk; rw [HVL.out]; simp; omega] at HP
            go_enter Tryz.func61, Tryz.ntmps61
            go_wp2_with fail
            refine (HNM.out _).mono ?_
            rintro e w1 ⟨rfl, rfl⟩
            go_wp2_with fail
            go_ret
            rw [← HP.out]
            exact ⟨by first | (simp; done) | (simp; omega), HK.out⟩
          · have hv2i : ¬ (vl : Int) ≤ 2048 := by omega
            rw [show valOk v = false by unfold valOk; rw [HVL.out]; simp; omega] at HP
            go_enter Tryz.func61, Tryz.ntmps61
            go_wp2_with fail
            refine (HNM.out _).mono ?_
            rintro e w1 ⟨rfl, rfl⟩
            go_wp2_with fail
            go_ret
            rw [← HP.out]
            exact ⟨by first | (simp; done) | (simp; omega), HK.out⟩
        · have hv1i : ¬ (1 : Int) ≤ (vl : Int) := by omega
          rw [show valOk v = false by unfold valOk; rw [HVL.out]; simp; omega] at HP
          go_enter Tryz.func61, Tryz.ntmps61
          go_wp2_with fail
          refine (HNM.out _).mono ?_
          rintro e w1 ⟨rfl, rfl⟩
          go_wp2_with fail
          go_ret
          rw [← HP.out]
          exact ⟨by first | (simp; done) | (simp; omega), HK.out⟩
      · have hni : ¬ (n : Int) = 0 := by omega
        have hnb : ((n : Int) == 0) = false := by simpa using hni
        rw [show decide (n = 0) = false by simpa using hn] at HP
        go_enter Tryz.func61, Tryz.ntmps61
        go_wp2_with fail
        refine (HNM.out _).mono ?_
        rintro e w1 ⟨rfl, rfl⟩
        go_wp2_with fail
        go_ret
        rw [← HP.out]
        exact ⟨by first | (simp; done) | (simp; omega), HK.out⟩
  have hkb4 : (k == 4) = false := by simpa using hk4
  by_cases hk5 : k = 5
  · subst hk5
    rw [if_neg (by simp), if_neg (by simp), if_pos (by simp)] at HP
    cases q2
    · go_enter Tryz.func61, Tryz.ntmps61
      go_wp2_with fail
      refine (HNM.out _).mono ?_
      rintro e w1 ⟨rfl, rfl⟩
      go_wp2_with fail
      go_ret
      rw [← HP.out]
      exact ⟨by first | (simp; done) | (simp; omega), HK.out⟩
    · by_cases hn : n = 0
      · subst hn
        by_cases hv1 : 1 ≤ vl
        · have hv1i : (1 : Int) ≤ (vl : Int) := by omega
          by_cases hv2 : vl ≤ 2048
          · have hv2i : (vl : Int) ≤ 2048 := by omega
            rw [show valOk v = true by unfold valOk; rw [HVL.out]; simp; omega] at HP
            go_enter Tryz.func61, Tryz.ntmps61
            go_wp2_with fail
            refine (HNM.out _).mono ?_
            rintro e w1 ⟨rfl, rfl⟩
            go_wp2_with fail
            go_ret
            rw [← HP.out]
            exact ⟨by first | (simp; done) | (simp; omega), HK.out⟩
          · have hv2i : ¬ (vl : Int) ≤ 2048 := by omega
            rw [show valOk v = false by unfold valOk; rw [HVL.out]; simp; omega] at HP
            go_enter Tryz.func61, Tryz.ntmps61
            go_wp2_with fail
            refine (HNM.out _).mono ?_
            rintro e w1 ⟨rfl, rfl⟩
            go_wp2_with fail
            go_ret
            rw [← HP.out]
            exact ⟨by first | (simp; done) | (simp; omega), HK.out⟩
        · have hv1i : ¬ (1 : Int) ≤ (vl : Int) := by omega
          rw [show valOk v = false by unfold valOk; rw [HVL.out]; simp; omega] at HP
          go_enter Tryz.func61, Tryz.ntmps61
          go_wp2_with fail
          refine (HNM.out _).mono ?_
          rintro e w1 ⟨rfl, rfl⟩
          go_wp2_with fail
          go_ret
          rw [← HP.out]
          exact ⟨by first | (simp; done) | (simp; omega), HK.out⟩
      · have hni : ¬ (n : Int) = 0 := by omega
        have hnb : ((n : Int) == 0) = false := by simpa using hni
        rw [show decide (n = 0) = false by simpa using hn] at HP
        go_enter Tryz.func61, Tryz.ntmps61
        go_wp2_with fail
        refine (HNM.out _).mono ?_
        rintro e w1 ⟨rfl, rfl⟩
        go_wp2_with fail
        go_ret
        rw [← HP.out]
        exact ⟨by first | (simp; done) | (simp; omega), HK.out⟩
  have hkb5 : (k == 5) = false := by simpa using hk5
  by_cases hk6 : k = 6
  · subst hk6
    rw [if_neg (by simp), if_neg (by simp), if_neg (by simp), if_pos rfl] at HP
    cases q2
    · go_enter Tryz.func61, Tryz.ntmps61
      go_wp2_with fail
      refine (HNM.out _).mono ?_
      rintro e w1 ⟨rfl, rfl⟩
      go_wp2_with fail
      go_ret
      rw [← HP.out]
      exact ⟨by first | (simp; done) | (simp; omega), HK.out⟩
    · by_cases hn : n = 0
      · subst hn
        cases b
        · go_enter Tryz.func61, Tryz.ntmps61
          go_wp2_with fail
          refine (HNM.out _).mono ?_
          rintro e w1 ⟨rfl, rfl⟩
          go_wp2_with fail
          go_ret
          rw [← HP.out]
          exact ⟨by first | (simp; done) | (simp; omega), HK.out⟩
        · go_enter Tryz.func61, Tryz.ntmps61
          go_wp2_with fail
          refine (HNM.out _).mono ?_
          rintro e w1 ⟨rfl, rfl⟩
          go_wp2_with fail
          go_ret
          rw [← HP.out]
          exact ⟨by first | (simp; done) | (simp; omega), HK.out⟩
      · have hni : ¬ (n : Int) = 0 := by omega
        have hnb : ((n : Int) == 0) = false := by simpa using hni
        rw [show decide (n = 0) = false by simpa using hn] at HP
        go_enter Tryz.func61, Tryz.ntmps61
        go_wp2_with fail
        refine (HNM.out _).mono ?_
        rintro e w1 ⟨rfl, rfl⟩
        go_wp2_with fail
        go_ret
        rw [← HP.out]
        exact ⟨by first | (simp; done) | (simp; omega), HK.out⟩
  have hkb6 : (k == 6) = false := by simpa using hk6
  rw [if_neg (by simp; omega), if_neg hk3, if_neg (by simp; omega), if_neg hk6] at HP
  go_enter Tryz.func61, Tryz.ntmps61
  go_wp2_with fail
  go_ret
  rw [← HP.out]
  exact ⟨by first | (simp; done) | (simp; omega), HK.out⟩
theorem thrF_bad {d m : Nat} {k : Int} {l : List FV} {s v : Txt} (h : aloneH k l.length s v = false) : thruF aloneF d m (.mk k l s v) = none := by
  by_cases hc : m < 200 ∧ d ≤ 16
  · rw [thrF_in hc, aloneF_is, h]
    cases thruL aloneF (d + 1) (m + 1) l <;> rfl
  · exact thrF_none hc
/-- How many may still be in a filter, as the document tells it. -/
def leftN (o : Option Nat) : Int := match o with | some n => 200 - (n : Int) | none => -1
theorem leftN_bounds {o : Option Nat} (h : ∀ n, o = some n → n ≤ 200) : -1 ≤ leftN o ∧ leftN o ≤ 200 := by
  cases o with
  | none => exact ⟨by decide, by decide⟩
  | some n =>
    have := h n rfl
    show -1 ≤ 200 - (n : Int) ∧ 200 - (n : Int) ≤ 200
    omega
set_option maxHeartbeats 8000000 in
theorem rleft8_is : ∀ (t : FV) (d m : Nat) (h : FH) (w : World), d ≤ 17 → m ≤ 200 → FilAt w t h →
    Calls Tryz.prog 35 #[h.val, .int .i64 (200 - (m : Int)), .int .i64 (d : Int)] w fun e w' => e = .returned (.int .i64 (leftN (thruF aloneF d m t))) ∧ Keeps [] w w' := by
  intro t
  induction t using FV.ind with
  | h k l s v ih =>
    intro d m h w hd hm ht
    have IH := Lib.hid ih
    obtain ⟨rfl, rfl, rfl, h4, h5, h6, h7, h8, h9, h10, h11⟩ := ht
    obtain ⟨k, B, lb, cb, s, v⟩ := h
    have hl : l.length = lb := h8
    have hlb : lb ≤ 9223372036854775807 := Nat.le_trans h9 h10
    dsimp only at h6 h7
    have HAN := Lib.hid (fun X => ralone8_is ⟨k, B, lb, cb, s, v⟩ X h6 h7)
    have HI := Lib.hid h11
    have HL := Lib.hid hl
    have HK : Hid (Keeps [] w (w.alloc (.cells #[.int .i64 k, .slice B lb cb, .string ⟨s.toArray⟩, .string ⟨v.toArray⟩] 25))) := (Keeps.refl [] w).alloc _
    have HB0 := Lib.hid (heap_new8 w (.cells #[.int .i64 k, .slice B lb cb, .string ⟨s.toArray⟩, .string ⟨v.toArray⟩] 25))
    obtain ⟨M, hM⟩ : ∃ M : Int, 200 - (m : Int) = M := ⟨_, rfl⟩
    have HMM := Lib.hid hM
    rw [hM]
    have hM0 : 0 ≤ M ∧ M ≤ 200 := by omega
    obtain ⟨hM0, hM2⟩ := hM0
    obtain ⟨⟨z0, z1, z2, z3⟩, _⟩ := four_facts8 HB0.out
    unfold FH.val tv at *
    dsimp only at *
    clear h4 h5 h6 h7 h8 h9 h10 h11 hl ih hM
    by_cases q1 : M ≤ 0
    · have HE : Hid (thruF aloneF d m (.mk k l s v) = none) := thrF_none (by have := HMM.out; omega)
      rw [HE.out]
      go_enter Tryz.func35, Tryz.ntmps35
      go_wp2_with fail
      go_ret
      exact ⟨rfl, HK.out⟩
    by_cases q2 : (16 : Int) < (d : Int)
    · have HE : Hid (thruF aloneF d m (.mk k l s v) = none) := thrF_none (by omega)
      rw [HE.out]
      go_enter Tryz.func35, Tryz.ntmps35
      go_wp2_with fail
      go_ret
      exact ⟨rfl, HK.out⟩
    cases qa : aloneH k lb s v with
    | false =>
      have HE : Hid (thruF aloneF d m (.mk k l s v) = none) := thrF_bad (by rw [HL.out]; exact qa)
      rw [HE.out]
      rw [qa] at HAN
      clear qa
      go_enter Tryz.func35, Tryz.ntmps35
      go_wp2_with fail
      refine (HAN.out _).mono ?_
      rintro e w1 ⟨rfl, hk1⟩
      have HK1 := Lib.hid (HK.out.trans' hk1)
      clear hk1
      go_wp2_with fail
      go_ret
      exact ⟨rfl, HK1.out⟩
    | true =>
      have HE : Hid (thruF aloneF d m (.mk k l s v) = thruL aloneF (d + 1) (m + 1) l) := by
        show _ = _
        rw [thrF_in (by have := HMM.out; omega), aloneF_is, HL.out, qa]
        cases thruL aloneF (d + 1) (m + 1) l <;> rfl
      rw [HE.out]
      rw [qa] at HAN
      clear qa
      go_enter Tryz.func35, Tryz.ntmps35
      go_wp2_with fail
      refine (HAN.out _).mono ?_
      rintro e w1 ⟨rfl, hk1⟩
      have HK1 := Lib.hid (HK.out.trans' hk1)
      have HB1 := Lib.hid (blk_keep HB0.out hk1 (by simp))
      clear hk1 z0 z1 z2 z3
      have hm9 : m < 200 := by have := HMM.out; omega
      go_wp2_with fail
      go_loopw [1, 7] (fun a i wr => ∃ (rr : Int) (n j : Nat), a = .int .i64 rr ∧ i = .int .i64 (j : Int) ∧ j ≤ lb ∧ Hid (rr = 200 - (n : Int)) ∧ (0 ≤ rr ∧ rr ≤ 200) ∧ Hid (thruL aloneF (d + 1) (m + 1) (l.take j) = some n) ∧ Hid (Keeps [] w wr) ∧ Hid (wr.heap[w.heap.size]? = some (.cells #[.int .i64 k, .slice B lb cb, .string ⟨s.toArray⟩, .string ⟨v.toArray⟩] 25 (0, 0)))) (fun _ i _ => lb - (intOf i).toNat)
      case atStart => exact ⟨M - 1, m + 1, 0, by go_num, rfl, Nat.zero_le _, by have := HMM.out; show _ = _; omega, by omega, by simp [thruL, Hid], HK1.out, HB1.out⟩
      case round =>
        obtain ⟨rr, n, j, rfl, rfl, hj, HRR, ⟨hr0, hr2⟩, HS, HKR, HBX⟩ := hrel
        obtain ⟨⟨z0, z1, z2, z3⟩, _⟩ := four_facts8 HBX.out
        by_cases hlt : j < lb
        · have hx : l[j]? = some (l[j]'(by have := HL.out; omega)) := List.getElem?_eq_getElem _
          obtain ⟨b9, o1, hh, rfl, hc, hat⟩ := (FilsAt.grow HKR.out B 0 l HI.out).at_ j _ hx
          rw [Nat.zero_add] at hc
          obtain ⟨g0, g1, g2, g3⟩ := four_at hc
          have hmem : (l[j]'(by have := HL.out; omega)) ∈ l := List.getElem_mem _
          generalize hxx : l[j]'(by have := HL.out; omega) = x at *
          have HXX := Lib.hid hx
          obtain ⟨k', B', lb', cb', s', v'⟩ := hh
          dsimp only at g0 g1 g2 g3
          have HREC : Hid (Calls Tryz.prog 35 #[.agg #[.int .i64 k', .slice B' lb' cb', .string ⟨s'.toArray⟩, .string ⟨v'.toArray⟩], .int .i64 rr, .int .i64 ((d : Int) + 1)] wr fun e w' => e = .returned (.int .i64 (leftN (thruF aloneF (d + 1) n x))) ∧ Keeps [] wr w') := by
            have h9 := IH.out x hmem (d + 1) n ⟨k', B', lb', cb', s', v'⟩ wr (by omega) (by have := HRR.out; omega) hat
            rw [show ((d + 1 : Nat) : Int) = (d : Int) + 1 by omega, ← HRR.out] at h9
            exact h9
          have HSN : Hid (thruL aloneF (d + 1) (m + 1) (l.take (j + 1)) = thruF aloneF (d + 1) n x) := by
            show _ = _
            rw [List.take_add_one, HXX.out]
            show thruL _ _ _ (l.take j ++ [x]) = _
            rw [thruL_snoc, HS.out]
          have hji : (j : Int) < (lb : Int) := by omega
          have hj0 : (0 : Int) ≤ (j : Int) := by omega
          clear hx hat hc hxx hmem
          cases hq : thruF aloneF (d + 1) n x with
          | none =>
            rw [hq] at HREC HSN
            have HEE : Hid (thruL aloneF (d + 1) (m + 1) l = none) := by
              have h7 := thruL_none aloneF (d + 1) (l.take (j + 1)) (l.drop (j + 1)) (m + 1) HSN.out
              rw [List.take_append_drop] at h7
              exact h7
            have HREC2 : Hid (Calls Tryz.prog 35 #[.agg #[.int .i64 k', .slice B' lb' cb', .string ⟨s'.toArray⟩, .string ⟨v'.toArray⟩], .int .i64 rr, .int .i64 ((d : Int) + 1)] wr fun e w' => e = .returned (.int .i64 (-1)) ∧ Keeps [] wr w') := HREC.out
            clear HREC hq
            go_wp2_with fail
            refine HREC2.out.mono ?_
            rintro e w2 ⟨rfl, hk2⟩
            have HK2 := Lib.hid (HKR.out.trans' hk2)
            clear hk2
            go_wp2_with fail
            go_ret
            exact ⟨by rw [HEE.out]; rfl, HK2.out⟩
          | some n2 =>
            rw [hq] at HREC HSN
            have hn2 := (thruF_le aloneF _ _ _ _ hq).2.2.2
            obtain ⟨sx, hsx⟩ : ∃ sx : Int, 200 - (n2 : Int) = sx := ⟨_, rfl⟩
            have HSX := Lib.hid hsx
            have hsx0 : 0 ≤ sx ∧ sx ≤ 200 := by omega
            obtain ⟨hs0, hs2⟩ := hsx0
            have HREC2 : Hid (Calls Tryz.prog 35 #[.agg #[.int .i64 k', .slice B' lb' cb', .string ⟨s'.toArray⟩, .string ⟨v'.toArray⟩], .int .i64 rr, .int .i64 ((d : Int) + 1)] wr fun e w' => e = .returned (.int .i64 sx) ∧ Keeps [] wr w') := by
              rw [← HSX.out]; exact HREC.out
            have hs9 : ¬ sx < 0 := by omega
            clear HREC hq hsx
            go_wp2_with fail
            refine HREC2.out.mono ?_
            rintro e w2 ⟨rfl, hk2⟩
            have HK2 := Lib.hid (HKR.out.trans' hk2)
            have HBX2 := Lib.hid (blk_keep HBX.out hk2 (by simp))
            clear hk2
            go_wp2_with fail
            go_roundw
            case rel => exact ⟨sx, n2, j + 1, rfl, by go_num, by omega, HSX.out.symm, ⟨hs0, hs2⟩, HSN.out, HK2.out, HBX2.out⟩
            case measure => simp [intOf]; omega
        · obtain rfl : j = lb := by omega
          have HEE : Hid (leftN (thruL aloneF (d + 1) (m + 1) l) = rr) := by
            have h9 := HS.out
            rw [List.take_of_length_le (by rw [HL.out]; exact Nat.le_refl _)] at h9
            show _ = _
            rw [h9, HRR.out]
            rfl
          go_wp2_with fail
          go_ret
          exact ⟨by rw [HEE.out]; rfl, HKR.out⟩
theorem rright8_is (t : FV) (h : FH) (w : World) (ht : FilAt w t h) :
    Calls Tryz.prog 14 #[h.val] w fun e w' => e = .returned (.bool (rightF t)) ∧ Keeps [] w w' := by
  have HF : Hid (∀ X, Keeps [] w X → Calls Tryz.prog 35 #[h.val, .int .i64 200, .int .i64 1] X fun e w' => e = .returned (.int .i64 (leftN (thruF aloneF 1 0 t))) ∧ Keeps [] X w') := fun X hk => rleft8_is t 1 0 h X (by omega) (by omega) (FilAt.grow hk t h ht)
  have HR : Hid (rightF t = decide (0 ≤ leftN (thruF aloneF 1 0 t))) := by
    show _ = _
    unfold rightF
    cases hq : thruF aloneF 1 0 t with
    | none => rfl
    | some n =>
      have := (thruF_le aloneF _ _ _ _ hq).2.2.2
      symm
      show decide (0 ≤ 200 - (n : Int)) = true
      simp
      omega
  rw [HR.out]
  obtain ⟨k, B, lb, cb, s, v⟩ := h
  generalize leftN (thruF aloneF 1 0 t) = z at *
  clear ht HR
  unfold FH.val tv at *
  dsimp only at *
  have HK : Hid (Keeps [] w (w.alloc (.cells #[.int .i64 k, .slice B lb cb, .string ⟨s.toArray⟩, .string ⟨v.toArray⟩] 25))) := (Keeps.refl [] w).alloc _
  obtain ⟨⟨z0, z1, z2, z3⟩, _⟩ := four_facts8 (heap_new8 w (.cells #[.int .i64 k, .slice B lb cb, .string ⟨s.toArray⟩, .string ⟨v.toArray⟩] 25))
  go_enter Tryz.func14, Tryz.ntmps14
  go_wp2_with fail
  refine (HF.out _ HK.out).mono ?_
  rintro e w1 ⟨rfl, hk1⟩
  have HK1 := Lib.hid (HK.out.trans' hk1)
  clear hk1
  go_wp2_with fail
  go_ret
  exact ⟨rfl, HK1.out⟩
end Go.Proofs.YtoggddoeanfjeaaGreatDoor
