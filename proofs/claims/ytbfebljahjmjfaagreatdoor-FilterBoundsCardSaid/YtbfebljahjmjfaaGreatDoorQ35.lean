import Derived.Test.YtbfebljahjmjfaaGreatDoorQ13
import Derived.Test.YtbfebljahjmjfaaGreatDoorQ03
import Derived.BigQuiet
import Derived.Test.YtbfebljahjmjfaaGreatDoorQ34
import Derived.Test.YtbfebljahjmjfaaGreatDoorQ07
import Derived.Test.YtbfebljahjmjfaaGreatDoorQ08
import Derived.Test.YtbfebljahjmjfaaGreatDoorQ09
import Derived.Test.YtbfebljahjmjfaaGreatDoorQ02
/- filter: the document's alone, left, Right; walked. -/
namespace Go.Proofs.YtbfebljahjmjfaaGreatDoor
open Go.RowKit Go.Shelf
set_option linter.unusedVariables false
set_option linter.unusedSimpArgs false
set_option maxRecDepth 100000

set_option maxHeartbeats 8000000 in
theorem ralone8_is (h : FH) (w : World) (hs : h.s.length ≤ 9223372036854775807) (hv : h.v.length ≤ 9223372036854775807) :
  Calls Tryz.prog 86 #[h.val] w fun e w' => e = .returned (.bool (aloneH h.k h.lb h.s h.v)) ∧ Keeps [] w w' := by
 obtain ⟨k, B, n, c, s, v⟩ := h
 dsimp only at hs hv ⊢
 have HNM := Lib.hid (fun X => rname_is s X hs)
 have HK : Hid (Keeps [] w (w.alloc (.cells #[.int .i64 k, .slice B n c, .string ⟨s.toArray⟩, .string ⟨v.toArray⟩] 26))) := (Keeps.refl [] w).alloc _
 obtain ⟨⟨z0, z1, z2, z3⟩, _⟩ := four_facts8 (heap_new8 w (.cells #[.int .i64 k, .slice B n c, .string ⟨s.toArray⟩, .string ⟨v.toArray⟩] 26))
 obtain ⟨P, hP⟩ : ∃ P, aloneH k n s v = P := ⟨_, rfl⟩
 have HP := Lib.hid hP
 rw [hP]
 clear hP
 unfold aloneH at HP
 have hse : (s == ([] : Txt)) = s.isEmpty := by cases s <;> rfl
 have hve : (v == ([] : Txt)) = v.isEmpty := by cases v <;> rfl
 obtain ⟨hs1, hs2, hs3⟩ := tx_beq s [] s.isEmpty hse
 obtain ⟨hv1, hv2, hv3⟩ := tx_beq v [] v.isEmpty hve
 obtain ⟨q2, hq2⟩ : ∃ q, nameT s = q := ⟨_, rfl⟩
 rw [hq2] at HP HNM
 obtain ⟨vl, hvl⟩ : ∃ n, v.length = n := ⟨_, rfl⟩
 have hvz : (⟨v.toArray⟩ : ByteArray).size = vl := hvl
 have HVL := Lib.hid hvl
 rw [hvl] at hv
 unfold FH.val tv at *
 dsimp only
 clear hq2 hse hve hs hvl
 obtain ⟨a, ha⟩ : ∃ a, s.isEmpty = a := ⟨_, rfl⟩
 obtain ⟨b, hb⟩ : ∃ b, v.isEmpty = b := ⟨_, rfl⟩
 rw [ha] at HP hs1 hs2 hs3
 rw [hb] at HP hv1 hv2 hv3
 by_cases hk1 : k = 1
 ·subst hk1
  rw [if_pos (by simp)] at HP
  cases a
  ·go_enter Tryz.func86, Tryz.ntmps86
   go_wp2_with fail
   go_ret
   rw [← HP.out]
   exact ⟨by first | (simp; done) | (simp; omega), HK.out⟩
  ·cases b
   ·go_enter Tryz.func86, Tryz.ntmps86
    go_wp2_with fail
    go_ret
    rw [← HP.out]
    exact ⟨by first | (simp; done) | (simp; omega), HK.out⟩
   ·go_enter Tryz.func86, Tryz.ntmps86
    go_wp2_with fail
    go_ret
    rw [← HP.out]
    exact ⟨by first | (simp; done) | (simp; omega), HK.out⟩
 have hkb1 : (k == 1) = false := by simpa using hk1
 by_cases hk2 : k = 2
 ·subst hk2
  rw [if_pos (by simp)] at HP
  cases a
  ·go_enter Tryz.func86, Tryz.ntmps86
   go_wp2_with fail
   go_ret
   rw [← HP.out]
   exact ⟨by first | (simp; done) | (simp; omega), HK.out⟩
  ·cases b
   ·go_enter Tryz.func86, Tryz.ntmps86
    go_wp2_with fail
    go_ret
    rw [← HP.out]
    exact ⟨by first | (simp; done) | (simp; omega), HK.out⟩
   ·go_enter Tryz.func86, Tryz.ntmps86
    go_wp2_with fail
    go_ret
    rw [← HP.out]
    exact ⟨by first | (simp; done) | (simp; omega), HK.out⟩
 have hkb2 : (k == 2) = false := by simpa using hk2
 by_cases hk3 : k = 3
 ·subst hk3
  rw [if_neg (by simp), if_pos rfl] at HP
  cases a
  ·go_enter Tryz.func86, Tryz.ntmps86
   go_wp2_with fail
   go_ret
   rw [← HP.out]
   exact ⟨by first | (simp; done) | (simp; omega), HK.out⟩
  ·cases b
   ·go_enter Tryz.func86, Tryz.ntmps86
    go_wp2_with fail
    go_ret
    rw [← HP.out]
    exact ⟨by first | (simp; done) | (simp; omega), HK.out⟩
   ·by_cases hn : n = 1
    ·subst hn
     go_enter Tryz.func86, Tryz.ntmps86
     go_wp2_with fail
     go_ret
     rw [← HP.out]
     exact ⟨by first | (simp; done) | (simp; omega), HK.out⟩
    ·have hni : ¬ (n : Int) = 1 := by omega
     have hnb : ((n : Int) == 1) = false := by simpa using hni
     rw [show decide (n = 1) = false by simpa using hn] at HP
     go_enter Tryz.func86, Tryz.ntmps86
     go_wp2_with fail
     go_ret
     rw [← HP.out]
     exact ⟨by first | (simp; done) | (simp; omega), HK.out⟩
 have hkb3 : (k == 3) = false := by simpa using hk3
 by_cases hk4 : k = 4
 ·subst hk4
  rw [if_neg (by simp), if_neg (by simp), if_pos (by simp)] at HP
  cases q2
  ·go_enter Tryz.func86, Tryz.ntmps86
   go_wp2_with fail
   refine (HNM.out _).mono ?_
   rintro e w1 ⟨rfl, rfl⟩
   go_wp2_with fail
   go_ret
   rw [← HP.out]
   exact ⟨by first | (simp; done) | (simp; omega), HK.out⟩
  ·by_cases hn : n = 0
   ·subst hn
    by_cases hv1 : 1 ≤ vl
    ·have hv1i : (1 : Int) ≤ (vl : Int) := by omega
     by_cases hv2 : vl ≤ 2048
     ·have hv2i : (vl : Int) ≤ 2048 := by omega
      rw [show valOk v = true by unfold valOk; rw [HVL.out]; simp; omega] at HP
      go_enter Tryz.func86, Tryz.ntmps86
      go_wp2_with fail
      refine (HNM.out _).mono ?_
      rintro e w1 ⟨rfl, rfl⟩
      go_wp2_with fail
      go_ret
      rw [← HP.out]
      exact ⟨by first | (simp; done) | (simp; omega), HK.out⟩
     ·have hv2i : ¬ (vl : Int) ≤ 2048 := by omega
      rw [show valOk v = false by unfold valOk; rw [HVL.out]; simp; omega] at HP
      go_enter Tryz.func86, Tryz.ntmps86
      go_wp2_with fail
      refine (HNM.out _).mono ?_
      rintro e w1 ⟨rfl, rfl⟩
      go_wp2_with fail
      go_ret
      rw [← HP.out]
      exact ⟨by first | (simp; done) | (simp; omega), HK.out⟩
    ·have hv1i : ¬ (1 : Int) ≤ (vl : Int) := by omega
     rw [show valOk v = false by unfold valOk; rw [HVL.out]; simp; omega] at HP
     go_enter Tryz.func86, Tryz.ntmps86
     go_wp2_with fail
     refine (HNM.out _).mono ?_
     rintro e w1 ⟨rfl, rfl⟩
     go_wp2_with fail
     go_ret
     rw [← HP.out]
     exact ⟨by first | (simp; done) | (simp; omega), HK.out⟩
   ·have hni : ¬ (n : Int) = 0 := by omega
    have hnb : ((n : Int) == 0) = false := by simpa using hni
    rw [show decide (n = 0) = false by simpa using hn] at HP
    go_enter Tryz.func86, Tryz.ntmps86
    go_wp2_with fail
    refine (HNM.out _).mono ?_
    rintro e w1 ⟨rfl, rfl⟩
    go_wp2_with fail
    go_ret
    rw [← HP.out]
    exact ⟨by first | (simp; done) | (simp; omega), HK.out⟩
 have hkb4 : (k == 4) = false := by simpa using hk4
 by_cases hk5 : k = 5
 ·subst hk5
  rw [if_neg (by simp), if_neg (by simp), if_pos (by simp)] at HP
  cases q2
  ·go_enter Tryz.func86, Tryz.ntmps86
   go_wp2_with fail
   refine (HNM.out _).mono ?_
   rintro e w1 ⟨rfl, rfl⟩
   go_wp2_with fail
   go_ret
   rw [← HP.out]
   exact ⟨by first | (simp; done) | (simp; omega), HK.out⟩
  ·by_cases hn : n = 0
   ·subst hn
    by_cases hv1 : 1 ≤ vl
    ·have hv1i : (1 : Int) ≤ (vl : Int) := by omega
     by_cases hv2 : vl ≤ 2048
     ·have hv2i : (vl : Int) ≤ 2048 := by omega
      rw [show valOk v = true by unfold valOk; rw [HVL.out]; simp; omega] at HP
      go_enter Tryz.func86, Tryz.ntmps86
      go_wp2_with fail
      refine (HNM.out _).mono ?_
      rintro e w1 ⟨rfl, rfl⟩
      go_wp2_with fail
      go_ret
      rw [← HP.out]
      exact ⟨by first | (simp; done) | (simp; omega), HK.out⟩
     ·have hv2i : ¬ (vl : Int) ≤ 2048 := by omega
      rw [show valOk v = false by unfold valOk; rw [HVL.out]; simp; omega] at HP
      go_enter Tryz.func86, Tryz.ntmps86
      go_wp2_with fail
      refine (HNM.out _).mono ?_
      rintro e w1 ⟨rfl, rfl⟩
      go_wp2_with fail
      go_ret
      rw [← HP.out]
      exact ⟨by first | (simp; done) | (simp; omega), HK.out⟩
    ·have hv1i : ¬ (1 : Int) ≤ (vl : Int) := by omega
     rw [show valOk v = false by unfold valOk; rw [HVL.out]; simp; omega] at HP
     go_enter Tryz.func86, Tryz.ntmps86
     go_wp2_with fail
     refine (HNM.out _).mono ?_
     rintro e w1 ⟨rfl, rfl⟩
     go_wp2_with fail
     go_ret
     rw [← HP.out]
     exact ⟨by first | (simp; done) | (simp; omega), HK.out⟩
   ·have hni : ¬ (n : Int) = 0 := by omega
    have hnb : ((n : Int) == 0) = false := by simpa using hni
    rw [show decide (n = 0) = false by simpa using hn] at HP
    go_enter Tryz.func86, Tryz.ntmps86
    go_wp2_with fail
    refine (HNM.out _).mono ?_
    rintro e w1 ⟨rfl, rfl⟩
    go_wp2_with fail
    go_ret
    rw [← HP.out]
    exact ⟨by first | (simp; done) | (simp; omega), HK.out⟩
 have hkb5 : (k == 5) = false := by simpa using hk5
 by_cases hk6 : k = 6
 ·subst hk6
  rw [if_neg (by simp), if_neg (by simp), if_neg (by simp), if_pos rfl] at HP
  cases q2
  ·go_enter Tryz.func86, Tryz.ntmps86
   go_wp2_with fail
   refine (HNM.out _).mono ?_
   rintro e w1 ⟨rfl, rfl⟩
   go_wp2_with fail
   go_ret
   rw [← HP.out]
   exact ⟨by first | (simp; done) | (simp; omega), HK.out⟩
  ·by_cases hn : n = 0
   ·subst hn
    cases b
    ·go_enter Tryz.func86, Tryz.ntmps86
     go_wp2_with fail
     refine (HNM.out _).mono ?_
     rintro e w1 ⟨rfl, rfl⟩
     go_wp2_with fail
     go_ret
     rw [← HP.out]
     exact ⟨by first | (simp; done) | (simp; omega), HK.out⟩
    ·go_enter Tryz.func86, Tryz.ntmps86
     go_wp2_with fail
     refine (HNM.out _).mono ?_
     rintro e w1 ⟨rfl, rfl⟩
     go_wp2_with fail
     go_ret
     rw [← HP.out]
     exact ⟨by first | (simp; done) | (simp; omega), HK.out⟩
   ·have hni : ¬ (n : Int) = 0 := by omega
    have hnb : ((n : Int) == 0) = false := by simpa using hni
    rw [show decide (n = 0) = false by simpa using hn] at HP
    go_enter Tryz.func86, Tryz.ntmps86
    go_wp2_with fail
    refine (HNM.out _).mono ?_
    rintro e w1 ⟨rfl, rfl⟩
    go_wp2_with fail
    go_ret
    rw [← HP.out]
    exact ⟨by first | (simp; done) | (simp; omega), HK.out⟩
 have hkb6 : (k == 6) = false := by simpa using hk6
 rw [if_neg (by simp; omega), if_neg hk3, if_neg (by simp; omega), if_neg hk6] at HP
 go_enter Tryz.func86, Tryz.ntmps86
 go_wp2_with fail
 go_ret
 rw [← HP.out]
 exact ⟨by first | (simp; done) | (simp; omega), HK.out⟩
theorem thrF_bad {d m : Nat} {k : Int} {l : List FV} {s v : Txt} (h : aloneH k l.length s v = false) : thruF aloneF d m (.mk k l s v) = none := by
 by_cases hc : m < 200 ∧ d ≤ 16
 ·rw [thrF_in hc, aloneF_is, h]
  cases thruL aloneF (d + 1) (m + 1) l <;> rfl
 ·exact thrF_none hc
/-- How many may still be in a filter, as the document tells it. -/
def leftN (o : Option Nat) : Int := match o with | some n => 200 - (n : Int) | none => -1
set_option maxHeartbeats 8000000 in
theorem rleft8_is : ∀ (t : FV) (d m : Nat) (h : FH) (w : World), d ≤ 17 → m ≤ 200 → FilAt w t h →
  Calls Tryz.prog 87 #[h.val, .int .i64 (200 - (m : Int)), .int .i64 (d : Int)] w fun e w' => e = .returned (.int .i64 (leftN (thruF aloneF d m t))) ∧ Keeps [] w w' := by
 intro t
 induction t using FV.ind with
 | h k l s v ih =>
  intro d m h w hd hm ht
  have IH := Lib.hid ih
  obtain ⟨rfl, rfl, rfl, h4, h5, h6, h7, h8, h9, h10, h11⟩ := ht
  obtain ⟨k, B, lb, cb, s, v⟩ := h
  have hl : l.length = lb := h8
  have hlb : lb ≤ 9223372036854775807 := Nat.le_trans h9 h10
  dsimp only at h6 h7
  have HAN := Lib.hid (fun X => ralone8_is ⟨k, B, lb, cb, s, v⟩ X h6 h7)
  have HI := Lib.hid h11
  have HL := Lib.hid hl
  have HK : Hid (Keeps [] w (w.alloc (.cells #[.int .i64 k, .slice B lb cb, .string ⟨s.toArray⟩, .string ⟨v.toArray⟩] 26))) := (Keeps.refl [] w).alloc _
  have HB0 := Lib.hid (heap_new8 w (.cells #[.int .i64 k, .slice B lb cb, .string ⟨s.toArray⟩, .string ⟨v.toArray⟩] 26))
  obtain ⟨M, hM⟩ : ∃ M : Int, 200 - (m : Int) = M := ⟨_, rfl⟩
  have HMM := Lib.hid hM
  rw [hM]
  have hM0 : 0 ≤ M ∧ M ≤ 200 := by omega
  obtain ⟨hM0, hM2⟩ := hM0
  obtain ⟨⟨z0, z1, z2, z3⟩, _⟩ := four_facts8 HB0.out
  unfold FH.val tv at *
  dsimp only at *
  clear h4 h5 h6 h7 h8 h9 h10 h11 hl ih hM
  by_cases q1 : M ≤ 0
  ·have HE : Hid (thruF aloneF d m (.mk k l s v) = none) := thrF_none (by have := HMM.out; omega)
   rw [HE.out]
   go_enter Tryz.func87, Tryz.ntmps87
   go_wp2_with fail
   go_ret
   exact ⟨rfl, HK.out⟩
  by_cases q2 : (16 : Int) < (d : Int)
  ·have HE : Hid (thruF aloneF d m (.mk k l s v) = none) := thrF_none (by omega)
   rw [HE.out]
   go_enter Tryz.func87, Tryz.ntmps87
   go_wp2_with fail
   go_ret
   exact ⟨rfl, HK.out⟩
  cases qa : aloneH k lb s v with
  | false =>
   have HE : Hid (thruF aloneF d m (.mk k l s v) = none) := thrF_bad (by rw [HL.out]; exact qa)
   rw [HE.out]
   rw [qa] at HAN
   clear qa
   go_enter Tryz.func87, Tryz.ntmps87
   go_wp2_with fail
   refine (HAN.out _).mono ?_
   rintro e w1 ⟨rfl, hk1⟩
   have HK1 := Lib.hid (HK.out.trans' hk1)
   clear hk1
   go_wp2_with fail
   go_ret
   exact ⟨rfl, HK1.out⟩
  | true =>
   have HE : Hid (thruF aloneF d m (.mk k l s v) = thruL aloneF (d + 1) (m + 1) l) := by
    show _ = _
    rw [thrF_in (by have := HMM.out; omega), aloneF_is, HL.out, qa]
    cases thruL aloneF (d + 1) (m + 1) l <;> rfl
   rw [HE.out]
   rw [qa] at HAN
   clear qa
   go_enter Tryz.func87, Tryz.ntmps87
   go_wp2_with fail
   refine (HAN.out _).mono ?_
   rintro e w1 ⟨rfl, hk1⟩
   have HK1 := Lib.hid (HK.out.trans' hk1)
   have HB1 := Lib.hid (blk_keep HB0.out hk1 (by simp))
   clear hk1 z0 z1 z2 z3
   have hm9 : m < 200 := by have := HMM.out; omega
   go_wp2_with fail
   go_loopw [1, 7] (fun a i wr => ∃ (rr : Int) (n j : Nat), a = .int .i64 rr ∧ i = .int .i64 (j : Int) ∧ j ≤ lb ∧ Hid (rr = 200 - (n : Int)) ∧ (0 ≤ rr ∧ rr ≤ 200) ∧ Hid (thruL aloneF (d + 1) (m + 1) (l.take j) = some n) ∧ Hid (Keeps [] w wr) ∧ Hid (wr.heap[w.heap.size]? = some (.cells #[.int .i64 k, .slice B lb cb, .string ⟨s.toArray⟩, .string ⟨v.toArray⟩] 26 (0, 0)))) (fun _ i _ => lb - (intOf i).toNat)
   case atStart => exact ⟨M - 1, m + 1, 0, by go_num, rfl, Nat.zero_le _, by have := HMM.out; show _ = _; omega, by omega, by simp [thruL, Hid], HK1.out, HB1.out⟩
   case round =>
    obtain ⟨rr, n, j, rfl, rfl, hj, HRR, ⟨hr0, hr2⟩, HS, HKR, HBX⟩ := hrel
    obtain ⟨⟨z0, z1, z2, z3⟩, _⟩ := four_facts8 HBX.out
    by_cases hlt : j < lb
    ·have hx : l[j]? = some (l[j]'(by have := HL.out; omega)) := List.getElem?_eq_getElem _
     obtain ⟨b9, o1, hh, rfl, hc, hat⟩ := (FilsAt.grow HKR.out B 0 l HI.out).at_ j _ hx
     rw [Nat.zero_add] at hc
     obtain ⟨g0, g1, g2, g3⟩ := four_at hc
     have hmem : (l[j]'(by have := HL.out; omega)) ∈ l := List.getElem_mem _
     generalize hxx : l[j]'(by have := HL.out; omega) = x at *
     have HXX := Lib.hid hx
     obtain ⟨k', B', lb', cb', s', v'⟩ := hh
     dsimp only at g0 g1 g2 g3
     have HREC : Hid (Calls Tryz.prog 87 #[.agg #[.int .i64 k', .slice B' lb' cb', .string ⟨s'.toArray⟩, .string ⟨v'.toArray⟩], .int .i64 rr, .int .i64 ((d : Int) + 1)] wr fun e w' => e = .returned (.int .i64 (leftN (thruF aloneF (d + 1) n x))) ∧ Keeps [] wr w') := by
      have h9 := IH.out x hmem (d + 1) n ⟨k', B', lb', cb', s', v'⟩ wr (by omega) (by have := HRR.out; omega) hat
      rw [show ((d + 1 : Nat) : Int) = (d : Int) + 1 by omega, ← HRR.out] at h9
      exact h9
     have HSN : Hid (thruL aloneF (d + 1) (m + 1) (l.take (j + 1)) = thruF aloneF (d + 1) n x) := by
      show _ = _
      rw [List.take_add_one, HXX.out]
      show thruL _ _ _ (l.take j ++ [x]) = _
      rw [thruL_snoc, HS.out]
     have hji : (j : Int) < (lb : Int) := by omega
     have hj0 : (0 : Int) ≤ (j : Int) := by omega
     clear hx hat hc hxx hmem
     cases hq : thruF aloneF (d + 1) n x with
     | none =>
      rw [hq] at HREC HSN
      have HEE : Hid (thruL aloneF (d + 1) (m + 1) l = none) := by
       have h7 := thruL_none aloneF (d + 1) (l.take (j + 1)) (l.drop (j + 1)) (m + 1) HSN.out
       rw [List.take_append_drop] at h7
       exact h7
      have HREC2 : Hid (Calls Tryz.prog 87 #[.agg #[.int .i64 k', .slice B' lb' cb', .string ⟨s'.toArray⟩, .string ⟨v'.toArray⟩], .int .i64 rr, .int .i64 ((d : Int) + 1)] wr fun e w' => e = .returned (.int .i64 (-1)) ∧ Keeps [] wr w') := HREC.out
      clear HREC hq
      go_wp2_with fail
      refine HREC2.out.mono ?_
      rintro e w2 ⟨rfl, hk2⟩
      have HK2 := Lib.hid (HKR.out.trans' hk2)
      clear hk2
      go_wp2_with fail
      go_ret
      exact ⟨by rw [HEE.out]; rfl, HK2.out⟩
     | some n2 =>
      rw [hq] at HREC HSN
      have hn2 := (thruF_le aloneF _ _ _ _ hq).2.2.2
      obtain ⟨sx, hsx⟩ : ∃ sx : Int, 200 - (n2 : Int) = sx := ⟨_, rfl⟩
      have HSX := Lib.hid hsx
      have hsx0 : 0 ≤ sx ∧ sx ≤ 200 := by omega
      obtain ⟨hs0, hs2⟩ := hsx0
      have HREC2 : Hid (Calls Tryz.prog 87 #[.agg #[.int .i64 k', .slice B' lb' cb', .string ⟨s'.toArray⟩, .string ⟨v'.toArray⟩], .int .i64 rr, .int .i64 ((d : Int) + 1)] wr fun e w' => e = .returned (.int .i64 sx) ∧ Keeps [] wr w') := by
       rw [← HSX.out]; exact HREC.out
      have hs9 : ¬ sx < 0 := by omega
      clear HREC hq hsx
      go_wp2_with fail
      refine HREC2.out.mono ?_
      rintro e w2 ⟨rfl, hk2⟩
      have HK2 := Lib.hid (HKR.out.trans' hk2)
      have HBX2 := Lib.hid (blk_keep HBX.out hk2 (by simp))
      clear hk2
      go_wp2_with fail
      go_roundw
      case rel => exact ⟨sx, n2, j + 1, rfl, by go_num, by omega, HSX.out.symm, ⟨hs0, hs2⟩, HSN.out, HK2.out, HBX2.out⟩
      case measure => simp [intOf]; omega
    ·obtain rfl : j = lb := by omega
     have HEE : Hid (leftN (thruL aloneF (d + 1) (m + 1) l) = rr) := by
      have h9 := HS.out
      rw [List.take_of_length_le (by rw [HL.out]; exact Nat.le_refl _)] at h9
      show _ = _
      rw [h9, HRR.out]
      rfl
     go_wp2_with fail
     go_ret
     exact ⟨by rw [HEE.out]; rfl, HKR.out⟩
theorem rright8_is (t : FV) (h : FH) (w : World) (ht : FilAt w t h) :
  Calls Tryz.prog 33 #[h.val] w fun e w' => e = .returned (.bool (rightF t)) ∧ Keeps [] w w' := by
 have HF : Hid (∀ X, Keeps [] w X → Calls Tryz.prog 87 #[h.val, .int .i64 200, .int .i64 1] X fun e w' => e = .returned (.int .i64 (leftN (thruF aloneF 1 0 t))) ∧ Keeps [] X w') := fun X hk => rleft8_is t 1 0 h X (by omega) (by omega) (FilAt.grow hk t h ht)
 have HR : Hid (rightF t = decide (0 ≤ leftN (thruF aloneF 1 0 t))) := by
  show _ = _
  unfold rightF
  cases hq : thruF aloneF 1 0 t with
  | none => rfl
  | some n =>
   have := (thruF_le aloneF _ _ _ _ hq).2.2.2
   symm
   show decide (0 ≤ 200 - (n : Int)) = true
   simp
   omega
 rw [HR.out]
 obtain ⟨k, B, lb, cb, s, v⟩ := h
 generalize leftN (thruF aloneF 1 0 t) = z at *
 clear ht HR
 unfold FH.val tv at *
 dsimp only at *
 have HK : Hid (Keeps [] w (w.alloc (.cells #[.int .i64 k, .slice B lb cb, .string ⟨s.toArray⟩, .string ⟨v.toArray⟩] 26))) := (Keeps.refl [] w).alloc _
 obtain ⟨⟨z0, z1, z2, z3⟩, _⟩ := four_facts8 (heap_new8 w (.cells #[.int .i64 k, .slice B lb cb, .string ⟨s.toArray⟩, .string ⟨v.toArray⟩] 26))
 go_enter Tryz.func33, Tryz.ntmps33
 go_wp2_with fail
 refine (HF.out _ HK.out).mono ?_
 rintro e w1 ⟨rfl, hk1⟩
 have HK1 := Lib.hid (HK.out.trans' hk1)
 clear hk1
 go_wp2_with fail
 go_ret
 exact ⟨rfl, HK1.out⟩
end Go.Proofs.YtbfebljahjmjfaaGreatDoor
/- filter: the document's Parse, walked (its one told). -/
namespace Go.Proofs.YtbfebljahjmjfaaGreatDoor
open Go.RowKit Go.Shelf
set_option linter.unusedVariables false
set_option linter.unusedSimpArgs false
set_option maxRecDepth 100000

/-- How the document's one ends. -/
def OnQ (T : Txt) (i d : Nat) (w : World) (e : Ending) (w' : World) : Prop :=
 (∀ t R, oneR (2 * (T.drop i).length + 2) d (T.drop i) = some (t, R) → ∃ h, e = .returned (.tuple #[FH.val h, .int .i64 ((T.length - R.length : Nat) : Int)]) ∧ ∀ (S : List Nat) (X : World), (∀ b ∈ S, b < w.heap.size) → Keeps S w' X → FilAt X t h) ∧ (oneR (2 * (T.drop i).length + 2) d (T.drop i) = none → e = .returned (.tuple #[FH.val ⟨0, none, 0, 0, [], []⟩, .int .i64 (-1)])) ∧ Keeps [] w w'
/-- How the document's Parse ends. -/
def RprQ (T : Txt) (w : World) (e : Ending) (w' : World) : Prop :=
 (∀ t, parseR T = some t → ∃ h, e = .returned (.tuple #[FH.val h, .bool true]) ∧ FilAt w' t h) ∧ (parseR T = none → e = .returned (.tuple #[FH.val ⟨0, none, 0, 0, [], []⟩, .bool false])) ∧ Keeps [] w w'
theorem results_fil_tmp {fn : Func} {p q : Tmp} (h : fn.results = #[.cell p 26, .tmp q]) (tmps : Array Value) (w : World) (g : Nat) (cs : Array Value) (fr : Nat × Nat)
  (hp : tmps.getD p undef = .pointer (some ⟨g, 0, none⟩)) (hs : cs.size = 4) (hg : w.heap[g]? = some (.cells cs 26 fr)) :
  (results fn tmps).run Tryz.prog w = .ok (.tuple #[.agg cs, tmps.getD q undef]) w := by
 have hp' : tmps[p]?.getD undef = .pointer (some ⟨g, 0, none⟩) := by simpa using hp
 have hl := run_loadVar_row (P := Tryz.prog) w g 26 26 cs fr _ hg Tryz.underlying26 rfl (by rw [hs]; kernel_rfl)
 simp [results, h, hp', asAddr, hl, Sem.run_bind, Result.andThen]
theorem on_cases {T : Txt} {w w1 : World} {e : Ending} (h : OnQ T 0 1 w e w1) : ((∃ t h, parseR T = (if rightF t = true then some t else none) ∧ e = .returned (.tuple #[FH.val h, .int .i64 (T.length : Int)]) ∧ ∀ (S : List Nat) (X : World), (∀ b ∈ S, b < w.heap.size) → Keeps S w1 X → FilAt X t h) ∨ (parseR T = none ∧ ∃ h z, e = .returned (.tuple #[FH.val h, .int .i64 z]) ∧ z ≠ (T.length : Int))) ∧ Keeps [] w w1 := by
 obtain ⟨h1, h2, h3⟩ := h
 refine ⟨?_, h3⟩
 simp only [List.drop_zero] at h1 h2
 unfold parseR
 cases ho : oneR (2 * T.length + 2) 1 T with
 | none => exact .inr ⟨rfl, _, _, h2 ho, by omega⟩
 | some p =>
  obtain ⟨t, R⟩ := p
  have hl := oneR_len _ _ _ _ _ ho
  obtain ⟨h, he, hf⟩ := h1 t R ho
  cases R with
  | nil => exact .inl ⟨t, h, rfl, by simpa using he, hf⟩
  | cons a b => exact .inr ⟨rfl, h, _, he, by simp only [List.length_cons] at hl ⊢; omega⟩
set_option maxHeartbeats 8000000 in
theorem rparse8_of (T : Txt) (w : World) (hT : T.length ≤ 1000000000) (HONE : ∀ X, Calls Tryz.prog 32 #[tv T, .int .i64 0, .int .i64 1] X fun e w' => OnQ T 0 1 X e w') :
  Calls Tryz.prog 10 #[tv T] w fun e w' => RprQ T w e w' := by
 obtain ⟨W0, hW0⟩ : ∃ W0, w.alloc (.cells #[.int .i64 0, .slice none 0 0, .string ⟨#[]⟩, .string ⟨#[]⟩] 26) = W0 := ⟨_, rfl⟩
 have hk0 : Keeps [] w W0 := by rw [← hW0]; exact (Keeps.refl [] w).alloc _
 have hr0 : W0.heap[w.heap.size]? = some (.cells #[.int .i64 0, .slice none 0 0, .string ⟨#[]⟩, .string ⟨#[]⟩] 26 (0, 0)) := by rw [← hW0]; exact heap_new8 w _
 have HR0 := Lib.hid (fun X (hk : Keeps [] W0 X) => blk_keep hr0 hk (by simp))
 have HK0 := Lib.hid hk0
 have HO := Lib.hid HONE
 obtain ⟨n, hn⟩ : ∃ n, T.length = n := ⟨_, rfl⟩
 have hsz : (⟨T.toArray⟩ : ByteArray).size = n := hn
 have HN := Lib.hid hn
 rw [hn] at hT
 have HRI := Lib.hid (fun t h X (ht : FilAt X t h) => rright8_is t h X ht)
 clear hk0 hr0 HONE hn
 unfold tv at *
 go_enter Tryz.func10, Tryz.ntmps10
 go_wp2_with fail
 refine (HO.out _).mono ?_
 intro e w1 hq
 obtain ⟨⟨t, h, hp, rfl, hf⟩ | ⟨hp, h, z, rfl, hz⟩, hk1⟩ := on_cases hq
 rotate_left
 ·have HP := Lib.hid hp
  rw [HN.out] at hz
  have hzb : (z == (n : Int)) = false := by simpa using hz
  have hzn : (z != (n : Int)) = true := by simpa using hz
  obtain ⟨k, B, lb, cb, s, v⟩ := h
  unfold FH.val tv at *
  dsimp only at *
  have hk2 := hk1.alloc (.cells #[.int .i64 k, .slice B lb cb, .string ⟨s.toArray⟩, .string ⟨v.toArray⟩] 26)
  have hr2 := HR0.out _ hk2
  obtain ⟨⟨c0, c1, c2, c3⟩, ⟨f0, f1, f2, f3⟩⟩ := four_facts8 hr2
  have HR2 := Lib.hid hr2
  have HK2 := Lib.hid (HK0.out.trans' hk2)
  clear hp hk1 hk2 hr2 hq
  go_wp2_with fail
  generalize w1.alloc (.cells #[.int .i64 k, .slice B lb cb, .string ⟨s.toArray⟩, .string ⟨v.toArray⟩] 26) = W2 at *
  have HR6' := heap_setCell_same _ w.heap.size 0 _ _ (.int .i64 0) HR2.out
  have HR7' := heap_setCell_same _ w.heap.size 1 _ _ (.slice none 0 0) HR6'
  have HR8' := heap_setCell_same _ w.heap.size 2 _ _ (.string ⟨#[]⟩) HR7'
  have hrow := heap_setCell_same _ w.heap.size 3 _ _ (.string ⟨#[]⟩) HR8'
  refine bodyPost_ret (results_fil_tmp rfl _ _ w.heap.size _ (0, 0) rfl rfl hrow) rfl ⟨fun t ht => (by rw [HP.out] at ht; cases ht), fun _ => rfl, ?_⟩
  exact ((((HK2.out.setCell (.inr (Nat.le_refl _)) _).setCell (.inr (Nat.le_refl _)) _).setCell (.inr (Nat.le_refl _)) _).setCell (.inr (Nat.le_refl _)) _)
 ·rw [HN.out]
  obtain ⟨k, B, lb, cb, s, v⟩ := h
  have hk2 := hk1.alloc (.cells #[.int .i64 k, .slice B lb cb, .string ⟨s.toArray⟩, .string ⟨v.toArray⟩] 26)
  have hr2 := HR0.out _ hk2
  have hn2 := heap_new8 w1 (.cells #[.int .i64 k, .slice B lb cb, .string ⟨s.toArray⟩, .string ⟨v.toArray⟩] 26)
  have HF := Lib.hid (fun X (hx : Keeps [] w1 X) => hf [] X (by simp) hx)
  have HF2 := Lib.hid (fun X (hx : Keeps [w.heap.size] w1 X) => hf [w.heap.size] X (by rw [← hW0]; simp) hx)
  have HKA : Hid (Keeps [] w1 (w1.alloc (.cells #[.int .i64 k, .slice B lb cb, .string ⟨s.toArray⟩, .string ⟨v.toArray⟩] 26))) := (Keeps.refl [] w1).alloc _
  have HCALL := Lib.hid (HRI.out t ⟨k, B, lb, cb, s, v⟩ _ (HF.out _ HKA.out))
  unfold FH.val tv at *
  dsimp only at *
  obtain ⟨⟨d0, d1, d2, d3⟩, _⟩ := four_facts8 hn2
  have HN2 := Lib.hid hn2
  have HR2 := Lib.hid hr2
  have HK2 := Lib.hid (HK0.out.trans' hk2)
  have HP := Lib.hid hp
  have hnn : ((n : Int) != (n : Int)) = false := by simp
  clear hp hk1 hk2 hr2 hn2 hq hf
  go_wp2_with fail
  refine HCALL.out.mono ?_
  rintro e w3 ⟨rfl, hk3⟩
  have HR3 := Lib.hid (blk_keep HR2.out hk3 (by simp))
  have HN3 := Lib.hid (blk_keep HN2.out hk3 (by simp))
  have HK3 := Lib.hid (HK2.out.trans' hk3)
  have HKB := Lib.hid (HKA.out.trans' hk3)
  obtain ⟨⟨c0, c1, c2, c3⟩, ⟨f0, f1, f2, f3⟩⟩ := four_facts8 HR3.out
  obtain ⟨⟨g0, g1, g2, g3⟩, _⟩ := four_facts8 HN3.out
  clear hk3 d0 d1 d2 d3
  by_cases hr : rightF t = true
  ·rw [if_pos hr] at HP
   rw [hr]
   go_wp2_with fail
   have HR6' := heap_setCell_same _ w.heap.size 0 _ _ (.int .i64 k) HR3.out
   have HR7' := heap_setCell_same _ w.heap.size 1 _ _ (.slice B lb cb) HR6'
   have HR8' := heap_setCell_same _ w.heap.size 2 _ _ (.string ⟨s.toArray⟩) HR7'
   have hrow := heap_setCell_same _ w.heap.size 3 _ _ (.string ⟨v.toArray⟩) HR8'
   refine bodyPost_ret (results_fil_tmp rfl _ _ w.heap.size _ (0, 0) rfl rfl hrow) rfl ⟨fun u hu => ?_, fun h9 => (by rw [HP.out] at h9; cases h9), ?_⟩
   ·rw [HP.out] at hu
    injection hu with hu
    subst hu
    refine ⟨⟨k, B, lb, cb, s, v⟩, rfl, HF2.out _ ?_⟩
    exact (((((HKB.out.mono (cs := [w.heap.size]) (by simp)).setCell (.inl (by simp)) _).setCell (.inl (by simp)) _).setCell (.inl (by simp)) _).setCell (.inl (by simp)) _)
   ·exact ((((HK3.out.setCell (.inr (Nat.le_refl _)) _).setCell (.inr (Nat.le_refl _)) _).setCell (.inr (Nat.le_refl _)) _).setCell (.inr (Nat.le_refl _)) _)
  ·rw [if_neg hr] at HP
   rw [show rightF t = false by simpa using hr]
   go_wp2_with fail
   have HR6' := heap_setCell_same _ w.heap.size 0 _ _ (.int .i64 0) HR3.out
   have HR7' := heap_setCell_same _ w.heap.size 1 _ _ (.slice none 0 0) HR6'
   have HR8' := heap_setCell_same _ w.heap.size 2 _ _ (.string ⟨#[]⟩) HR7'
   have hrow := heap_setCell_same _ w.heap.size 3 _ _ (.string ⟨#[]⟩) HR8'
   refine bodyPost_ret (results_fil_tmp rfl _ _ w.heap.size _ (0, 0) rfl rfl hrow) rfl ⟨fun t ht => (by rw [HP.out] at ht; cases ht), fun _ => rfl, ?_⟩
   exact ((((HK3.out.setCell (.inr (Nat.le_refl _)) _).setCell (.inr (Nat.le_refl _)) _).setCell (.inr (Nat.le_refl _)) _).setCell (.inr (Nat.le_refl _)) _)
end Go.Proofs.YtbfebljahjmjfaaGreatDoor
/- filter: the program's alike; the head of the document's Same; walked by hand. -/
namespace Go.Proofs.YtbfebljahjmjfaaGreatDoor
open Go.RowKit Go.Shelf
set_option linter.unusedVariables false
set_option linter.unusedSimpArgs false
set_option maxRecDepth 100000

/-- Have two filters the same parts, but for what is in them? -/
def likeH (k k' : Int) (s s' v v' : Txt) (n n' : Nat) : Bool := k == k' && (smallL s == smallL s' && (v == v' && n == n'))
theorem two_boxes8 (w : World) (o1 o2 : Obj) : ((w.alloc o1).alloc o2).heap[w.heap.size]? = some o1 ∧ ((w.alloc o1).alloc o2).heap[w.heap.size + 1]? = some o2 := by
 refine ⟨blk_keep (heap_new8 w o1) ((Keeps.refl [] _).alloc o2) (by simp), ?_⟩
 have h := heap_new8 (w.alloc o1) o2
 rwa [show (w.alloc o1).heap.size = w.heap.size + 1 by show (w.heap.push o1).size = _; simp] at h
end Go.Proofs.YtbfebljahjmjfaaGreatDoor
