/- Texts of one proof, laid together: F55. -/
import Derived.Test.YtoggddoeanfjeaaGreatDoorMD2
import Derived.Test.YtoggddoeanfjeaaGreatDoorMC0
import Derived.Test.YtoggddoeanfjeaaGreatDoorMD5
import Derived.Test.YtoggddoeanfjeaaGreatDoorMD4
import Derived.Test.YtoggddoeanfjeaaGreatDoorMD6
import Derived.BigQuiet
/- filter: the law FilterMeans, the stage's theorem; walked. -/
namespace Go.Proofs.YtoggddoeanfjeaaGreatDoor
open Go.RowKit Go.Shelf
set_option linter.unusedVariables false
set_option linter.unusedSimpArgs false
set_option maxRecDepth 100000

/-- What the law must see of a filter and its Not. -/
theorem means_not (own : List Att) (t : FV) : ((meansP own [] (.mk 3 [t] [] [])).2 : Int) = 2 ∨ ((meansP own [] (.mk 3 [t] [] [])).2 : Int) = 0 ∧ (meansP own [] (.mk 3 [t] [] [])).1 = !(meanF own [] (lowF t)) := by
  unfold meansP
  split
  · exact .inr ⟨rfl, mean_not (s := []) (v := []) rfl⟩
  · exact .inl rfl
set_option maxHeartbeats 16000000 in
theorem filtermeans_any (t : FV) (h : FH) (A : Option Addr) (n c : Nat) (l : List At7) (w : World) (ht : FilAt w t h) (hE : EntIn w A n l) (hG : SgnAt w) (hs : SynAt w) :
    Calls Tryz.prog 3 #[h.val, .slice A n c] w fun e w' => e = .returned (.bool true) ∧ Keeps [] w w' := by
  have HKN := Lib.hid (fun X (hX : Keeps [] w X) => known8_is X (hG.keep hX) (hs.keep hX (by simp)))
  have HEN := Lib.hid (fun X (hX : Keeps [] w X) => entries8_is A n c l X (hE.grow hX))
  have HLA := Lib.hid (fun X (hX : Keeps [] w X) => light8_law t h X (FilAt.grow hX t h ht))
  have HM0 := Lib.hid (fun (hl : LightE8 l) (t : FV) (hh : FH) X (hX : Keeps [] w X) (ht : FilAt X t hh) => means8_is ⟨A, n, c, none, 0, 0⟩ l [] t hh X (subOk_plain (hE.grow hX) hl) ht)
  have HFT := Lib.hid (fun X (hX : Keeps [] w X) => FilAt.grow hX t h ht)
  have HCK := Lib.hid (fun X (hX : Keeps [] w X) => check8_is t h X (FilAt.grow hX t h ht))
  have HRR := Lib.hid (fun X (hX : Keeps [] w X) => rright8_is t h X (FilAt.grow hX t h ht))
  have HRE := Lib.hid (fun (hl : LightE8 l) X (hX : Keeps [] w X) => rright7_is A n c l X (hE.grow hX) (hl.few 100000 (by omega)))
  have HRM := Lib.hid (fun (hr : rightF t = true) (hl : LightE8 l) X (hX : Keeps [] w X) => rmeans8_is A n c l t h X (by
    unfold rightF at hr
    obtain ⟨q, hq⟩ := Option.isSome_iff_exists.1 hr
    exact ⟨1, 0, q, hq⟩) (FilAt.grow hX t h ht) (hE.grow hX) (by have := (hl.few 100000 (by omega)).1; rw [hE.1] at this; exact this))
  generalize decide (0 ≤ leftV 1 4000 t) = la at HLA
  obtain ⟨k, B, lb, cb, s, v⟩ := h
  clear ht hE hG hs
  unfold MnsQ at HM0
  unfold ChkQ at HCK
  unfold FH.val tv at HLA HCK HRR HRM ⊢
  dsimp only at HLA HCK HRR HRM ⊢
  have HKB : Hid (Keeps [] w (w.alloc (.cells #[.int .i64 k, .slice B lb cb, .string ⟨s.toArray⟩, .string ⟨v.toArray⟩] 25))) := (Keeps.refl [] w).alloc _
  have HBA := Lib.hid (heap_new8 w (.cells #[.int .i64 k, .slice B lb cb, .string ⟨s.toArray⟩, .string ⟨v.toArray⟩] 25))
  obtain ⟨⟨z0, z1, z2, z3⟩, _⟩ := four_facts8 HBA.out
  go_enter Tryz.func3, Tryz.ntmps3
  go_wp2_with fail
  generalize w.alloc (.cells #[.int .i64 k, .slice B lb cb, .string ⟨s.toArray⟩, .string ⟨v.toArray⟩] 25) = W1 at HKB HBA z0 z1 z2 z3 ⊢
  refine (HLA.out _ HKB.out).mono ?_
  rintro e w2 ⟨rfl, hk2⟩
  have HK2 := Lib.hid (HKB.out.trans' hk2)
  have HBA2 := Lib.hid (blk_keep HBA.out hk2 (by simp))
  clear hk2 z0 z1 z2 z3
  cases la
  · go_wp2_with fail
    refine (HKN.out _ HK2.out).mono ?_
    rintro e w9 ⟨rfl, hk9⟩
    have HK9 := Lib.hid (HK2.out.trans' hk9)
    clear hk9
    go_wp2_with fail
    go_ret
    exact ⟨by first | rfl | simp, HK9.out⟩
  · go_wp2_with fail
    refine (HEN.out _ HK2.out).mono ?_
    rintro e w4 ⟨r1, rfl, hr1, rfl⟩
    cases r1
    · clear hr1
      go_wp2_with fail
      refine (HKN.out _ HK2.out).mono ?_
      rintro e w9 ⟨rfl, hk9⟩
      have HK9 := Lib.hid (HK2.out.trans' hk9)
      clear hk9
      go_wp2_with fail
      go_ret
      exact ⟨by first | rfl | simp, HK9.out⟩
    · have HLI : Hid (LightE8 l) := hr1 rfl
      clear hr1
      obtain ⟨⟨z0, z1, z2, z3⟩, _⟩ := four_facts8 HBA2.out
      have HM : Hid (∀ (t : FV) (hh : FH) X, Keeps [] w X → FilAt X t hh → Calls Tryz.prog 13 #[hh.val, .slice A n c, .slice none 0 0] X fun e w' => e = .returned (.tuple #[.bool (meansP (ents l) [] t).1, .int .i64 ((meansP (ents l) [] t).2 : Int)]) ∧ Keeps [] X w') := HM0.out HLI.out
      have HMT := Lib.hid (HM.out t ⟨k, B, lb, cb, s, v⟩ w2 HK2.out (HFT.out w2 HK2.out))
      unfold FH.val tv at HMT
      dsimp only at HMT
      have HMP : Hid (meansP (ents l) [] t = if rightF t = true ∧ entOk (ents l) = true then (meanF (ents l) [] (lowF t), 0) else (false, 2)) := by
        show _ = _
        unfold meansP
        rw [stands_plain]
      have HRE2 := Lib.hid (HRE.out HLI.out)
      cases hrf : rightF t with
      | false =>
        rw [hrf] at HRR HCK HMP
        rw [if_neg (by simp)] at HMP
        rw [HMP.out] at HMT
        have HMT2 : Hid (Calls Tryz.prog 13 #[.agg #[.int .i64 k, .slice B lb cb, .string ⟨s.toArray⟩, .string ⟨v.toArray⟩], .slice A n c, .slice none 0 0] w2 fun e w' => e = .returned (.tuple #[.bool false, .int .i64 2]) ∧ Keeps [] w2 w') := HMT.out
        have HCK2 : Hid (∀ X, Keeps [] w X → Calls Tryz.prog 16 #[.agg #[.int .i64 k, .slice B lb cb, .string ⟨s.toArray⟩, .string ⟨v.toArray⟩]] X fun e w' => e = .returned (.int .i64 2) ∧ Keeps [] X w') := HCK.out
        clear hrf HMT HM HM0 HRM HRE HRE2 HCK
        have HCK := HCK2
        clear HCK2
        go_wp2_with fail
        refine HMT2.out.mono ?_
        rintro e w3 ⟨rfl, hk3⟩
        have HK3 := Lib.hid (HK2.out.trans' hk3)
        have HBA3 := Lib.hid (blk_keep HBA2.out hk3 (by simp))
        obtain ⟨⟨y0, y1, y2, y3⟩, _⟩ := four_facts8 HBA3.out
        clear hk3 z0 z1 z2 z3
        go_wp2_with fail
        refine (HRR.out _ HK3.out).mono ?_
        rintro e w5 ⟨rfl, hk5⟩
        have HKX := Lib.hid (HK3.out.trans' hk5)
        have HBA5 := Lib.hid (blk_keep HBA3.out hk5 (by simp))
        obtain ⟨⟨q0, q1, q2, q3⟩, _⟩ := four_facts8 HBA5.out
        have HALL : Hid (∀ X, Keeps [] w5 X → X.cell? ⟨w.heap.size, 0, none⟩ = some (.int .i64 k) ∧ X.cell? ⟨w.heap.size, 1, none⟩ = some (.slice B lb cb) ∧ X.cell? ⟨w.heap.size, 2, none⟩ = some (.string ⟨s.toArray⟩) ∧ X.cell? ⟨w.heap.size, 3, none⟩ = some (.string ⟨v.toArray⟩)) := fun X hX => ⟨(hX.cell (lt_of_cell q0) (by simp)).trans q0, (hX.cell (lt_of_cell q1) (by simp)).trans q1, (hX.cell (lt_of_cell q2) (by simp)).trans q2, (hX.cell (lt_of_cell q3) (by simp)).trans q3⟩
        have HCK5 := Lib.hid (fun X (hX : Keeps [] w5 X) => HCK.out X (HKX.out.trans' hX))
        have HRR5 := Lib.hid (fun X (hX : Keeps [] w5 X) => HRR.out X (HKX.out.trans' hX))
        have HKN5 := Lib.hid (fun X (hX : Keeps [] w5 X) => HKN.out X (HKX.out.trans' hX))
        clear hk5 y0 y1 y2 y3 HCK HRR HKN
        go_wp2_with fail
        have HKK : Hid (Keeps [] w5 w5) := Keeps.refl _ _
        have ya := HALL.out _ HKK.out
        clear q0 q1 q2 q3
        go_region_held3 (fun w' => w'.cell? ⟨w.heap.size, 0, none⟩ = some (.int .i64 k) ∧ w'.cell? ⟨w.heap.size, 1, none⟩ = some (.slice B lb cb) ∧ w'.cell? ⟨w.heap.size, 2, none⟩ = some (.string ⟨s.toArray⟩) ∧ w'.cell? ⟨w.heap.size, 3, none⟩ = some (.string ⟨v.toArray⟩)) (first | exact ya | exact yb | go_keep) (first | (go_at_call 16; refine (HCK5.out _ (by repeat (first | exact HKK.out | refine Keeps.drew ?_))).mono ?_; rintro e w6 ⟨rfl, hk6⟩; have kk := Keeps.trans' (a := w5) (bs := []) (by repeat (first | exact HKK.out | refine Keeps.drew ?_)) hk6; clear HKK; have HKK := Lib.hid kk; have yb := HALL.out w6 kk; clear hk6 kk) | (go_at_call 14; refine (HRR5.out _ (by repeat (first | exact HKK.out | refine Keeps.drew ?_))).mono ?_; rintro e w6 ⟨rfl, hk6⟩; have kk := Keeps.trans' (a := w5) (bs := []) (by repeat (first | exact HKK.out | refine Keeps.drew ?_)) hk6; clear HKK; have HKK := Lib.hid kk; have yb := HALL.out w6 kk; clear hk6 kk) | (go_at_call 12; refine (HKN5.out _ (by repeat (first | exact HKK.out | refine Keeps.drew ?_))).mono ?_; rintro e w6 ⟨rfl, hk6⟩; have kk := Keeps.trans' (a := w5) (bs := []) (by repeat (first | exact HKK.out | refine Keeps.drew ?_)) hk6; clear HKK; have HKK := Lib.hid kk; have yb := HALL.out w6 kk; clear hk6 kk))
        all_goals
          go_wp2_with fail
          go_ret
          exact ⟨by first | rfl | simp, HKX.out.trans' HKK.out⟩
      | true =>
        rw [hrf] at HRR HMP HCK
        cases heo : entOk (ents l) with
        | false =>
          rw [heo] at HRE2 HMP
          rw [if_neg (by simp)] at HMP
          rw [HMP.out] at HMT
          have HMT2 : Hid (Calls Tryz.prog 13 #[.agg #[.int .i64 k, .slice B lb cb, .string ⟨s.toArray⟩, .string ⟨v.toArray⟩], .slice A n c, .slice none 0 0] w2 fun e w' => e = .returned (.tuple #[.bool false, .int .i64 2]) ∧ Keeps [] w2 w') := HMT.out
          have HCK2 : Hid (∀ X, Keeps [] w X → Calls Tryz.prog 16 #[.agg #[.int .i64 k, .slice B lb cb, .string ⟨s.toArray⟩, .string ⟨v.toArray⟩]] X fun e w' => e = .returned (.int .i64 0) ∧ Keeps [] X w') := HCK.out
          clear hrf heo HMT HM HM0 HRM HRE HCK
          have HCK := HCK2
          clear HCK2
          go_wp2_with fail
          refine HMT2.out.mono ?_
          rintro e w3 ⟨rfl, hk3⟩
          have HK3 := Lib.hid (HK2.out.trans' hk3)
          have HBA3 := Lib.hid (blk_keep HBA2.out hk3 (by simp))
          obtain ⟨⟨y0, y1, y2, y3⟩, _⟩ := four_facts8 HBA3.out
          clear hk3 z0 z1 z2 z3
          go_wp2_with fail
          refine (HRR.out _ HK3.out).mono ?_
          rintro e w4 ⟨rfl, hk4⟩
          have HK4 := Lib.hid (HK3.out.trans' hk4)
          have HBA4 := Lib.hid (blk_keep HBA3.out hk4 (by simp))
          clear hk4 y0 y1 y2 y3
          go_wp2_with fail
          refine (HRE2.out _ HK4.out).mono ?_
          rintro e w5 ⟨rfl, hk5⟩
          have HKX := Lib.hid (HK4.out.trans' hk5)
          have HBA5 := Lib.hid (blk_keep HBA4.out hk5 (by simp))
          obtain ⟨⟨q0, q1, q2, q3⟩, _⟩ := four_facts8 HBA5.out
          have HALL : Hid (∀ X, Keeps [] w5 X → X.cell? ⟨w.heap.size, 0, none⟩ = some (.int .i64 k) ∧ X.cell? ⟨w.heap.size, 1, none⟩ = some (.slice B lb cb) ∧ X.cell? ⟨w.heap.size, 2, none⟩ = some (.string ⟨s.toArray⟩) ∧ X.cell? ⟨w.heap.size, 3, none⟩ = some (.string ⟨v.toArray⟩)) := fun X hX => ⟨(hX.cell (lt_of_cell q0) (by simp)).trans q0, (hX.cell (lt_of_cell q1) (by simp)).trans q1, (hX.cell (lt_of_cell q2) (by simp)).trans q2, (hX.cell (lt_of_cell q3) (by simp)).trans q3⟩
          have HCK5 := Lib.hid (fun X (hX : Keeps [] w5 X) => HCK.out X (HKX.out.trans' hX))
          have HRR5 := Lib.hid (fun X (hX : Keeps [] w5 X) => HRR.out X (HKX.out.trans' hX))
          have HKN5 := Lib.hid (fun X (hX : Keeps [] w5 X) => HKN.out X (HKX.out.trans' hX))
          clear hk5 HCK HRR HKN HRE2
          go_wp2_with fail
          have HKK : Hid (Keeps [] w5 w5) := Keeps.refl _ _
          have ya := HALL.out _ HKK.out
          clear q0 q1 q2 q3
          go_region_held3 (fun w' => w'.cell? ⟨w.heap.size, 0, none⟩ = some (.int .i64 k) ∧ w'.cell? ⟨w.heap.size, 1, none⟩ = some (.slice B lb cb) ∧ w'.cell? ⟨w.heap.size, 2, none⟩ = some (.string ⟨s.toArray⟩) ∧ w'.cell? ⟨w.heap.size, 3, none⟩ = some (.string ⟨v.toArray⟩)) (first | exact ya | exact yb | go_keep) (first | (go_at_call 16; refine (HCK5.out _ (by repeat (first | exact HKK.out | refine Keeps.drew ?_))).mono ?_; rintro e w6 ⟨rfl, hk6⟩; have kk := Keeps.trans' (a := w5) (bs := []) (by repeat (first | exact HKK.out | refine Keeps.drew ?_)) hk6; clear HKK; have HKK := Lib.hid kk; have yb := HALL.out w6 kk; clear hk6 kk) | (go_at_call 14; refine (HRR5.out _ (by repeat (first | exact HKK.out | refine Keeps.drew ?_))).mono ?_; rintro e w6 ⟨rfl, hk6⟩; have kk := Keeps.trans' (a := w5) (bs := []) (by repeat (first | exact HKK.out | refine Keeps.drew ?_)) hk6; clear HKK; have HKK := Lib.hid kk; have yb := HALL.out w6 kk; clear hk6 kk) | (go_at_call 12; refine (HKN5.out _ (by repeat (first | exact HKK.out | refine Keeps.drew ?_))).mono ?_; rintro e w6 ⟨rfl, hk6⟩; have kk := Keeps.trans' (a := w5) (bs := []) (by repeat (first | exact HKK.out | refine Keeps.drew ?_)) hk6; clear HKK; have HKK := Lib.hid kk; have yb := HALL.out w6 kk; clear hk6 kk))
          all_goals
            go_wp2_with fail
            go_ret
            exact ⟨by first | rfl | simp, HKX.out.trans' HKK.out⟩
        | true =>
          rw [heo] at HRE2 HMP
          rw [if_pos ⟨rfl, rfl⟩] at HMP
          rw [HMP.out] at HMT
          have HRM2 := Lib.hid (HRM.out hrf HLI.out)
          have HNT := Lib.hid (means_not (ents l) t)
          have HMN := Lib.hid (HM.out (.mk 3 [t] [] []))
          generalize meansP (ents l) [] (.mk 3 [t] [] []) = pn at HNT HMN
          obtain ⟨bn, mn⟩ := pn
          generalize meanF (ents l) [] (lowF t) = q at HRM2 HMT HNT
          dsimp only at HMT HMN HNT
          have HMT2 : Hid (Calls Tryz.prog 13 #[.agg #[.int .i64 k, .slice B lb cb, .string ⟨s.toArray⟩, .string ⟨v.toArray⟩], .slice A n c, .slice none 0 0] w2 fun e w' => e = .returned (.tuple #[.bool q, .int .i64 0]) ∧ Keeps [] w2 w') := HMT.out
          have HCK2 : Hid (∀ X, Keeps [] w X → Calls Tryz.prog 16 #[.agg #[.int .i64 k, .slice B lb cb, .string ⟨s.toArray⟩, .string ⟨v.toArray⟩]] X fun e w' => e = .returned (.int .i64 0) ∧ Keeps [] X w') := HCK.out
          clear hrf heo HMT HM HM0 HRM HRE HCK HMP
          go_wp2_with fail
          refine HMT2.out.mono ?_
          rintro e w3 ⟨rfl, hk3⟩
          have HK3 := Lib.hid (HK2.out.trans' hk3)
          have HBA3 := Lib.hid (blk_keep HBA2.out hk3 (by simp))
          obtain ⟨⟨y0, y1, y2, y3⟩, _⟩ := four_facts8 HBA3.out
          clear hk3 z0 z1 z2 z3
          go_wp2_with fail
          refine (HRR.out _ HK3.out).mono ?_
          rintro e w4 ⟨rfl, hk4⟩
          have HK4 := Lib.hid (HK3.out.trans' hk4)
          have HBA4 := Lib.hid (blk_keep HBA3.out hk4 (by simp))
          clear hk4 y0 y1 y2 y3
          go_wp2_with fail
          refine (HRE2.out _ HK4.out).mono ?_
          rintro e w5 ⟨rfl, hk5⟩
          have HK5 := Lib.hid (HK4.out.trans' hk5)
          have HBA5 := Lib.hid (blk_keep HBA4.out hk5 (by simp))
          obtain ⟨⟨y0, y1, y2, y3⟩, _⟩ := four_facts8 HBA5.out
          clear hk5
          go_wp2_with fail
          refine (HRM2.out _ HK5.out).mono ?_
          rintro e w6 ⟨rfl, hk6⟩
          have HK6 := Lib.hid (HK5.out.trans' hk6)
          have HBA6 := Lib.hid (blk_keep HBA5.out hk6 (by simp))
          obtain ⟨⟨z0, z1, z2, z3⟩, _⟩ := four_facts8 HBA6.out
          clear hk6 y0 y1 y2 y3
          cases q
          · go_wp2_with fail
            refine (HCK2.out _ HK6.out).mono ?_
            rintro e w7 ⟨rfl, hk7⟩
            have HK7 := Lib.hid (HK6.out.trans' hk7)
            have HBA7 := Lib.hid (blk_keep HBA6.out hk7 (by simp))
            obtain ⟨⟨y0, y1, y2, y3⟩, _⟩ := four_facts8 HBA7.out
            clear hk7 z0 z1 z2 z3
            have HL1 : Hid (FilsAt (w7.alloc (.cells #[.int .i64 k, .slice B lb cb, .string ⟨s.toArray⟩, .string ⟨v.toArray⟩] 25)) (some ⟨w7.heap.size, 0, none⟩) 0 [t]) := fils_lit w7 [t] [⟨k, B, lb, cb, s, v⟩] 1 _ rfl rfl rfl (by decide) (fun i t' h ht hh => by
              cases i with
              | zero =>
                injection ht with ht
                injection hh with hh
                subst ht hh
                exact HFT.out w7 HK7.out
              | succ i => simp at ht)
            have HKL : Hid (Keeps [] w7 (w7.alloc (.cells #[.int .i64 k, .slice B lb cb, .string ⟨s.toArray⟩, .string ⟨v.toArray⟩] 25))) := (Keeps.refl [] w7).alloc _
            have HCX := Lib.hid (HMN.out ⟨3, some ⟨w7.heap.size, 0, none⟩, 1, 1, [], []⟩ _ (HK7.out.trans' HKL.out) (filAt_of _ 3 _ _ 1 1 (by decide) rfl (by decide) (by decide) HL1.out))
            unfold FH.val tv at HCX
            dsimp only at HCX
            go_wp2_with fail
            refine HCX.out.mono ?_
            rintro e w8 ⟨rfl, hk8⟩
            have HK8 := Lib.hid (HK7.out.trans' (HKL.out.trans' hk8))
            have hnt := HNT.out
            clear hk8 HCX HL1 HKL HMN y0 y1 y2 y3 HNT
            generalize (mn : Int) = fn at *
            rcases hnt with rfl | ⟨rfl, rfl⟩
            all_goals
              go_wp2_with fail
              refine (HKN.out _ HK8.out).mono ?_
              rintro e w9 ⟨rfl, hk9⟩
              have HK9 := Lib.hid (HK8.out.trans' hk9)
              clear hk9
              go_wp2_with fail
              go_ret
              exact ⟨by first | rfl | simp, HK9.out⟩
          · go_wp2_with fail
            refine (HCK2.out _ HK6.out).mono ?_
            rintro e w7 ⟨rfl, hk7⟩
            have HK7 := Lib.hid (HK6.out.trans' hk7)
            have HBA7 := Lib.hid (blk_keep HBA6.out hk7 (by simp))
            obtain ⟨⟨y0, y1, y2, y3⟩, _⟩ := four_facts8 HBA7.out
            clear hk7 z0 z1 z2 z3
            have HL1 : Hid (FilsAt (w7.alloc (.cells #[.int .i64 k, .slice B lb cb, .string ⟨s.toArray⟩, .string ⟨v.toArray⟩] 25)) (some ⟨w7.heap.size, 0, none⟩) 0 [t]) := fils_lit w7 [t] [⟨k, B, lb, cb, s, v⟩] 1 _ rfl rfl rfl (by decide) (fun i t' h ht hh => by
              cases i with
              | zero =>
                injection ht with ht
                injection hh with hh
                subst ht hh
                exact HFT.out w7 HK7.out
              | succ i => simp at ht)
            have HKL : Hid (Keeps [] w7 (w7.alloc (.cells #[.int .i64 k, .slice B lb cb, .string ⟨s.toArray⟩, .string ⟨v.toArray⟩] 25))) := (Keeps.refl [] w7).alloc _
            have HCX := Lib.hid (HMN.out ⟨3, some ⟨w7.heap.size, 0, none⟩, 1, 1, [], []⟩ _ (HK7.out.trans' HKL.out) (filAt_of _ 3 _ _ 1 1 (by decide) rfl (by decide) (by decide) HL1.out))
            unfold FH.val tv at HCX
            dsimp only at HCX
            go_wp2_with fail
            refine HCX.out.mono ?_
            rintro e w8 ⟨rfl, hk8⟩
            have HK8 := Lib.hid (HK7.out.trans' (HKL.out.trans' hk8))
            have hnt := HNT.out
            clear hk8 HCX HL1 HKL HMN y0 y1 y2 y3 HNT
            generalize (mn : Int) = fn at *
            rcases hnt with rfl | ⟨rfl, rfl⟩
            all_goals
              go_wp2_with fail
              refine (HKN.out _ HK8.out).mono ?_
              rintro e w9 ⟨rfl, hk9⟩
              have HK9 := Lib.hid (HK8.out.trans' hk9)
              clear hk9
              go_wp2_with fail
              go_ret
              exact ⟨by first | rfl | simp, HK9.out⟩
end Go.Proofs.YtoggddoeanfjeaaGreatDoor
