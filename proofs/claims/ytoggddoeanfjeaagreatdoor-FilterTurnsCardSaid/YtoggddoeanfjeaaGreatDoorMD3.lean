/- Texts of one proof, laid together: F51. -/
import Derived.Test.YtoggddoeanfjeaaGreatDoorMD2
import Derived.Test.YtoggddoeanfjeaaGreatDoorMC0
import Derived.BigQuiet
/- filter: the law FilterTurns; walked. -/
namespace Go.Proofs.YtoggddoeanfjeaaGreatDoor
open Go.RowKit Go.Shelf
set_option linter.unusedVariables false
set_option linter.unusedSimpArgs false
set_option maxRecDepth 100000

theorem meansP_cases (own bs : List Att) (t : FV) : meansP own bs t = (meanF own bs (lowF t), 0) ∨ meansP own bs t = (false, 2) := by
  unfold meansP
  split
  · exact .inl rfl
  · exact .inr rfl
theorem turn_x {own : List Att} {ta tb : FV} (one oth : Int) (ho : one = 1 ∧ oth = 2 ∨ one = 2 ∧ oth = 1) : meanF own [] (lowF (.mk 3 [.mk one [ta, tb] [] []] [] [])) = meanF own [] (lowF (.mk oth [.mk 3 [ta] [] [], .mk 3 [tb] [] []] [] [])) := by
  simp only [lowF, lowFL, meanF, meanFL]
  unfold meanK
  generalize meanF own [] (lowF ta) = a
  generalize meanF own [] (lowF tb) = b
  rcases ho with ⟨rfl, rfl⟩ | ⟨rfl, rfl⟩ <;> cases a <;> cases b <;> rfl
theorem turn_u {own : List Att} {ta : FV} (one : Int) (ho : one = 1 ∨ one = 2) : meanF own [] (lowF (.mk one [ta] [] [])) = meanF own [] (lowF ta) := by
  simp only [lowF, lowFL, meanF, meanFL]
  unfold meanK
  generalize meanF own [] (lowF ta) = a
  rcases ho with rfl | rfl <;> cases a <;> rfl
theorem turn_z {own : List Att} (one : Int) (ho : one = 1 ∨ one = 2) : meanF own [] (lowF (.mk one [] [] [])) = decide (one = 1) := by
  simp only [lowF, lowFL, meanF, meanFL]
  unfold meanK
  rcases ho with rfl | rfl <;> rfl
/-- What a turn must see of two answers that are to be the same. -/
def AskQ (p q : Bool × Nat) : Prop := (p.2 : Int) = 2 ∨ (p.2 : Int) = 0 ∧ (q.2 : Int) = 2 ∨ (p.2 : Int) = 0 ∧ (q.2 : Int) = 0 ∧ p.1 = q.1
theorem askq_of {own : List Att} {t u : FV} (h : meanF own [] (lowF t) = meanF own [] (lowF u)) : AskQ (meansP own [] t) (meansP own [] u) := by
  unfold AskQ
  rcases meansP_cases own [] t with h1 | h1
  · rcases meansP_cases own [] u with h2 | h2
    · rw [h1, h2, h]
      exact .inr (.inr ⟨rfl, rfl, rfl⟩)
    · rw [h1, h2]
      exact .inr (.inl ⟨rfl, rfl⟩)
  · rw [h1]
    exact .inl rfl
theorem turns_x {own : List Att} {ta tb : FV} (one oth : Int) (ho : one = 1 ∧ oth = 2 ∨ one = 2 ∧ oth = 1) : AskQ (meansP own [] (.mk 3 [.mk one [ta, tb] [] []] [] [])) (meansP own [] (.mk oth [.mk 3 [ta] [] [], .mk 3 [tb] [] []] [] [])) := askq_of (turn_x one oth ho)
theorem turns_u {own : List Att} {ta : FV} (one : Int) (ho : one = 1 ∨ one = 2) : AskQ (meansP own [] (.mk one [ta] [] [])) (meansP own [] ta) := askq_of (turn_u one ho)
theorem turns_z {own : List Att} (one : Int) (ho : one = 1 ∨ one = 2) : ((meansP own [] (.mk one [] [] [])).2 : Int) = 2 ∨ ((meansP own [] (.mk one [] [] [])).2 : Int) = 0 ∧ (meansP own [] (.mk one [] [] [])).1 = decide (one = 1) := by
  rcases meansP_cases own [] (.mk one [] [] []) with h1 | h1
  · rw [h1]
    exact .inr ⟨rfl, turn_z one ho⟩
  · rw [h1]
    exact .inl rfl
set_option maxHeartbeats 16000000 in
theorem filterturns_any (ta tb : FV) (ha hb : FH) (A : Option Addr) (n c : Nat) (l : List At7) (w : World) (hA : FilAt w ta ha) (hB : FilAt w tb hb) (h : EntIn w A n l) (hG : SgnAt w) (hs : SynAt w) :
    Calls Tryz.prog 7 #[ha.val, hb.val, .slice A n c] w fun e w' => e = .returned (.bool true) ∧ Keeps [] w w' := by
  have HKN := Lib.hid (fun X (hX : Keeps [] w X) => known8_is X (hG.keep hX) (hs.keep hX (by simp)))
  have HEN := Lib.hid (fun X (hX : Keeps [] w X) => entries8_is A n c l X (h.grow hX))
  have HAL := Lib.hid (fun X (hX : Keeps [] w X) => FilAt.grow hX ta ha hA)
  have HBL := Lib.hid (fun X (hX : Keeps [] w X) => FilAt.grow hX tb hb hB)
  have HLA := Lib.hid (fun X (hX : Keeps [] w X) => light8_law ta ha X (FilAt.grow hX ta ha hA))
  have HLB := Lib.hid (fun X (hX : Keeps [] w X) => light8_law tb hb X (FilAt.grow hX tb hb hB))
  have HM0 := Lib.hid (fun (hl : LightE8 l) (t : FV) (hh : FH) X (hX : Keeps [] w X) (ht : FilAt X t hh) => means8_is ⟨A, n, c, none, 0, 0⟩ l [] t hh X (subOk_plain (h.grow hX) hl) ht)
  generalize decide (0 ≤ leftV 1 4000 ta) = la at HLA
  generalize decide (0 ≤ leftV 1 4000 tb) = lb9 at HLB
  obtain ⟨k, B, lb, cb, s, v⟩ := ha
  obtain ⟨k', B', lb', cb', s', v'⟩ := hb
  clear hA hB h hG hs
  unfold MnsQ at HM0
  unfold FH.val tv at HLA HLB ⊢
  dsimp only at HLA HLB ⊢
  have HKB : Hid (Keeps [] w ((w.alloc (.cells #[.int .i64 k, .slice B lb cb, .string ⟨s.toArray⟩, .string ⟨v.toArray⟩] 25)).alloc (.cells #[.int .i64 k', .slice B' lb' cb', .string ⟨s'.toArray⟩, .string ⟨v'.toArray⟩] 25))) := ((Keeps.refl [] w).alloc _).alloc _
  have HBA := Lib.hid (blk_keep (heap_new8 w (.cells #[.int .i64 k, .slice B lb cb, .string ⟨s.toArray⟩, .string ⟨v.toArray⟩] 25)) ((Keeps.refl [] (w.alloc (.cells #[.int .i64 k, .slice B lb cb, .string ⟨s.toArray⟩, .string ⟨v.toArray⟩] 25))).alloc (.cells #[.int .i64 k', .slice B' lb' cb', .string ⟨s'.toArray⟩, .string ⟨v'.toArray⟩] 25)) (by simp))
  have HBB := Lib.hid (heap_new8 (w.alloc (.cells #[.int .i64 k, .slice B lb cb, .string ⟨s.toArray⟩, .string ⟨v.toArray⟩] 25)) (.cells #[.int .i64 k', .slice B' lb' cb', .string ⟨s'.toArray⟩, .string ⟨v'.toArray⟩] 25))
  rw [World.size_alloc] at HBB
  obtain ⟨⟨z0, z1, z2, z3⟩, _⟩ := four_facts8 HBA.out
  obtain ⟨⟨y0, y1, y2, y3⟩, _⟩ := four_facts8 HBB.out
  go_enter Tryz.func7, Tryz.ntmps7
  go_wp2_with fail
  generalize (w.alloc (.cells #[.int .i64 k, .slice B lb cb, .string ⟨s.toArray⟩, .string ⟨v.toArray⟩] 25)).alloc (.cells #[.int .i64 k', .slice B' lb' cb', .string ⟨s'.toArray⟩, .string ⟨v'.toArray⟩] 25) = W1 at HKB HBA HBB z0 z1 z2 z3 y0 y1 y2 y3 ⊢
  refine (HLA.out _ HKB.out).mono ?_
  rintro e w2 ⟨rfl, hk2⟩
  have HK2 := Lib.hid (HKB.out.trans' hk2)
  have HBA2 := Lib.hid (blk_keep HBA.out hk2 (by simp))
  have HBB2 := Lib.hid (blk_keep HBB.out hk2 (by simp))
  obtain ⟨⟨y0, y1, y2, y3⟩, _⟩ := four_facts8 HBB2.out
  clear hk2 z0 z1 z2 z3
  cases la
  · go_wp2_with fail
    refine (HKN.out _ HK2.out).mono ?_
    rintro e w9 ⟨rfl, hk9⟩
    have HK9 := Lib.hid (HK2.out.trans' hk9)
    clear hk9
    go_wp2_with fail
    go_ret
    exact ⟨rfl, HK9.out⟩
  · go_wp2_with fail
    refine (HLB.out _ HK2.out).mono ?_
    rintro e w3 ⟨rfl, hk3⟩
    have HK3 := Lib.hid (HK2.out.trans' hk3)
    have HBA3 := Lib.hid (blk_keep HBA2.out hk3 (by simp))
    have HBB3 := Lib.hid (blk_keep HBB2.out hk3 (by simp))
    clear hk3 y0 y1 y2 y3 HBA HBB HBA2 HBB2
    cases lb9
    · go_wp2_with fail
      refine (HKN.out _ HK3.out).mono ?_
      rintro e w9 ⟨rfl, hk9⟩
      have HK9 := Lib.hid (HK3.out.trans' hk9)
      clear hk9
      go_wp2_with fail
      go_ret
      exact ⟨rfl, HK9.out⟩
    · go_wp2_with fail
      refine (HEN.out _ HK3.out).mono ?_
      rintro e w4 ⟨r1, rfl, hr1, rfl⟩
      cases r1
      · clear hr1
        go_wp2_with fail
        refine (HKN.out _ HK3.out).mono ?_
        rintro e w9 ⟨rfl, hk9⟩
        have HK9 := Lib.hid (HK3.out.trans' hk9)
        clear hk9
        go_wp2_with fail
        go_ret
        exact ⟨rfl, HK9.out⟩
      · have HLI : Hid (LightE8 l) := hr1 rfl
        clear hr1
        obtain ⟨⟨z0, z1, z2, z3⟩, _⟩ := four_facts8 HBA3.out
        obtain ⟨⟨y0, y1, y2, y3⟩, _⟩ := four_facts8 HBB3.out
        have HM : Hid (∀ (t : FV) (hh : FH) X, Keeps [] w X → FilAt X t hh → Calls Tryz.prog 13 #[hh.val, .slice A n c, .slice none 0 0] X fun e w' => e = .returned (.tuple #[.bool (meansP (ents l) [] t).1, .int .i64 ((meansP (ents l) [] t).2 : Int)]) ∧ Keeps [] X w') := HM0.out HLI.out
        obtain ⟨g, hg⟩ : ∃ g, w3.heap.size = g := ⟨_, rfl⟩
        have HFB5 : Hid (FilsAt (w3.alloc (.cells #[.int .i64 k, .slice B lb cb, .string ⟨s.toArray⟩, .string ⟨v.toArray⟩, .int .i64 k', .slice B' lb' cb', .string ⟨s'.toArray⟩, .string ⟨v'.toArray⟩] 25)) (some ⟨g, 0, none⟩) 0 [ta, tb]) := by
          show FilsAt _ _ _ _
          rw [← hg]
          exact fils_lit w3 [ta, tb] [⟨k, B, lb, cb, s, v⟩, ⟨k', B', lb', cb', s', v'⟩] 2 _ rfl rfl rfl (by decide) (fun i t h ht hh => by
            match i, ht, hh with
            | 0, ht, hh => cases ht; cases hh; exact HAL.out w3 HK3.out
            | 1, ht, hh => cases ht; cases hh; exact HBL.out w3 HK3.out
            | i + 2, ht, hh => simp at ht)
        have HK5 : Hid (Keeps [] w3 (w3.alloc (.cells #[.int .i64 k, .slice B lb cb, .string ⟨s.toArray⟩, .string ⟨v.toArray⟩, .int .i64 k', .slice B' lb' cb', .string ⟨s'.toArray⟩, .string ⟨v'.toArray⟩] 25))) := (Keeps.refl [] w3).alloc _
        have hto := slice1_to g
        have hfrom := slice1_from g
        go_wp2_with fail
        generalize w3.alloc (.cells #[.int .i64 k, .slice B lb cb, .string ⟨s.toArray⟩, .string ⟨v.toArray⟩, .int .i64 k', .slice B' lb' cb', .string ⟨s'.toArray⟩, .string ⟨v'.toArray⟩] 25) = W5 at HFB5 HK5 ⊢
        clear hg z0 z1 z2 z3 y0 y1 y2 y3
        go_region_with fail
        have HFN6 : Hid (FilsAt ((W5.alloc (.cells #[.int .i64 3, .slice (some ⟨g, 0, none⟩) 1 2, .string ⟨#[]⟩, .string ⟨#[]⟩, .int .i64 3, .slice (some ⟨g, 4, none⟩) 1 1, .string ⟨#[]⟩, .string ⟨#[]⟩] 25)).drew) (some ⟨W5.heap.size, 0, none⟩) 0 [.mk 3 [ta] [] [], .mk 3 [tb] [] []]) := FilsAt.grow ((Keeps.refl [] _).drew) _ 0 _ (fils_lit W5 [.mk 3 [ta] [] [], .mk 3 [tb] [] []] [⟨3, some ⟨g, 0, none⟩, 1, 2, [], []⟩, ⟨3, some ⟨g, 4, none⟩, 1, 1, [], []⟩] 2 _ rfl rfl rfl (by decide) (fun i t h ht hh => by
          match i, ht, hh with
          | 0, ht, hh => cases ht; cases hh; exact filAt_of W5 3 [ta] _ 1 2 (by decide) rfl (by decide) (by decide) (fils_take HFB5.out 1)
          | 1, ht, hh => cases ht; cases hh; exact filAt_of W5 3 [tb] _ 1 1 (by decide) rfl (by decide) (by decide) (fils_drop HFB5.out 1)
          | i + 2, ht, hh => simp at ht))
        have HK6 : Hid (Keeps [] W5 ((W5.alloc (.cells #[.int .i64 3, .slice (some ⟨g, 0, none⟩) 1 2, .string ⟨#[]⟩, .string ⟨#[]⟩, .int .i64 3, .slice (some ⟨g, 4, none⟩) 1 1, .string ⟨#[]⟩, .string ⟨#[]⟩] 25)).drew)) := ((Keeps.refl [] W5).alloc _).drew
        obtain ⟨G, hG⟩ : ∃ G, W5.heap.size = G := ⟨_, rfl⟩
        rw [hG] at HFN6 ⊢
        generalize (W5.alloc (.cells #[.int .i64 3, .slice (some ⟨g, 0, none⟩) 1 2, .string ⟨#[]⟩, .string ⟨#[]⟩, .int .i64 3, .slice (some ⟨g, 4, none⟩) 1 1, .string ⟨#[]⟩, .string ⟨#[]⟩] 25)).drew = W6 at HFN6 HK6 ⊢
        have HKW : Hid (Keeps [] w W6) := HK3.out.trans' (HK5.out.trans' HK6.out)
        have HFN := Lib.hid (fun X (hX : Keeps [] W6 X) => FilsAt.grow hX _ 0 _ HFN6.out)
        have HFB := Lib.hid (fun X (hX : Keeps [] W6 X) => FilsAt.grow (HK6.out.trans' hX) _ 0 _ HFB5.out)
        have HBA := Lib.hid (blk_keep (blk_keep HBA3.out HK5.out (by simp)) HK6.out (by simp))
        have hto := slice1_to g
        clear hG hfrom HFN6 HFB5 HK5 HK6 HLA HLB HM0 HBL HK2 HK3 HEN HKB HBA3 HBB3
        go_wp2_with fail
        go_loopw [9] (fun i wr => ∃ j : Nat, i = .int .i64 (j : Int) ∧ j ≤ 2 ∧ Hid (Keeps [] W6 wr)) (fun i _ => 2 - (intOf i).toNat)
        case atStart => exact ⟨0, rfl, by decide, Keeps.refl _ _⟩
        case round =>
          obtain ⟨j, rfl, hj, HKR⟩ := hrel
          match j, hj with
          | 0, _ =>
            have HT1 := Lib.hid (turns_x (own := ents l) (ta := ta) (tb := tb) 1 2 (by decide))
            have HT2 := Lib.hid (turns_u (own := ents l) (ta := ta) 1 (by decide))
            have HT3 := Lib.hid (turns_z (own := ents l) 1 (by decide))
            have HMX := Lib.hid (HM.out (.mk 3 [.mk 1 [ta, tb] [] []] [] []))
            have HMY := Lib.hid (HM.out (.mk 2 [.mk 3 [ta] [] [], .mk 3 [tb] [] []] [] []))
            have HMU := Lib.hid (HM.out (.mk 1 [ta] [] []))
            have HMV := Lib.hid (HM.out ta)
            have HMZ := Lib.hid (HM.out (.mk 1 [] [] []))
            generalize meansP (ents l) [] (.mk 3 [.mk 1 [ta, tb] [] []] [] []) = px at HT1 HMX
            generalize meansP (ents l) [] (.mk 2 [.mk 3 [ta] [] [], .mk 3 [tb] [] []] [] []) = py at HT1 HMY
            generalize meansP (ents l) [] (.mk 1 [ta] [] []) = pu at HT2 HMU
            generalize meansP (ents l) [] ta = pv at HT2 HMV
            generalize meansP (ents l) [] (.mk 1 [] [] []) = pz at HT3 HMZ
            obtain ⟨bx, mx⟩ := px
            obtain ⟨b_y, my⟩ := py
            obtain ⟨bu, mu⟩ := pu
            obtain ⟨b_v, mv⟩ := pv
            obtain ⟨bz, mz⟩ := pz
            dsimp only at HT1 HT2 HT3 HMX HMY HMU HMV HMZ
            have HL1 : Hid (FilsAt (wr.alloc (.cells #[.int .i64 1, .slice (some ⟨g, 0, none⟩) 2 2, .string ⟨#[]⟩, .string ⟨#[]⟩] 25)) (some ⟨wr.heap.size, 0, none⟩) 0 [.mk 1 [ta, tb] [] []]) := fils_lit wr [.mk 1 [ta, tb] [] []] [⟨1, some ⟨g, 0, none⟩, 2, 2, [], []⟩] 1 _ rfl rfl rfl (by decide) (fun i t h ht hh => by
              cases i with
              | zero =>
                injection ht with ht
                injection hh with hh
                subst ht hh
                exact filAt_of wr 1 _ _ 2 2 (by decide) rfl (by decide) (by decide) (HFB.out wr HKR.out)
              | succ i => simp at ht)
            have HKL : Hid (Keeps [] wr (wr.alloc (.cells #[.int .i64 1, .slice (some ⟨g, 0, none⟩) 2 2, .string ⟨#[]⟩, .string ⟨#[]⟩] 25))) := (Keeps.refl [] wr).alloc _
            have HCX := Lib.hid (HMX.out ⟨3, some ⟨wr.heap.size, 0, none⟩, 1, 1, [], []⟩ _ (HKW.out.trans' (HKR.out.trans' HKL.out)) (filAt_of _ 3 _ _ 1 1 (by decide) rfl (by decide) (by decide) HL1.out))
            unfold FH.val tv at HCX
            dsimp only at HCX
            go_wp2_with fail
            refine HCX.out.mono ?_
            rintro e x1 ⟨rfl, hk1⟩
            have HX1 := Lib.hid (HKR.out.trans' (HKL.out.trans' hk1))
            clear hk1 HCX HL1 HKL HMX
            have HCY := Lib.hid (HMY.out ⟨2, some ⟨G, 0, none⟩, 2, 2, [], []⟩ x1 (HKW.out.trans' HX1.out) (filAt_of x1 2 _ _ 2 2 (by decide) rfl (by decide) (by decide) (HFN.out x1 HX1.out)))
            unfold FH.val tv at HCY
            dsimp only at HCY
            go_wp2_with fail
            refine HCY.out.mono ?_
            rintro e x2 ⟨rfl, hk2⟩
            have HX2 := Lib.hid (HX1.out.trans' hk2)
            clear hk2 HCY HMY
            have HCU := Lib.hid (HMU.out ⟨1, some ⟨g, 0, none⟩, 1, 2, [], []⟩ x2 (HKW.out.trans' HX2.out) (filAt_of x2 1 [ta] _ 1 2 (by decide) rfl (by decide) (by decide) (fils_take (HFB.out x2 HX2.out) 1)))
            unfold FH.val tv at HCU
            dsimp only at HCU
            go_wp2_with fail
            refine HCU.out.mono ?_
            rintro e x3 ⟨rfl, hk3⟩
            have HX3 := Lib.hid (HX2.out.trans' hk3)
            clear hk3 HCU HMU
            have HCV := Lib.hid (HMV.out ⟨k, B, lb, cb, s, v⟩ x3 (HKW.out.trans' HX3.out) (HAL.out x3 (HKW.out.trans' HX3.out)))
            unfold FH.val tv at HCV
            dsimp only at HCV
            obtain ⟨⟨z0, z1, z2, z3⟩, _⟩ := four_facts8 (blk_keep HBA.out HX3.out (by simp))
            go_wp2_with fail
            refine HCV.out.mono ?_
            rintro e x4 ⟨rfl, hk4⟩
            have HX4 := Lib.hid (HX3.out.trans' hk4)
            clear hk4 HCV HMV z0 z1 z2 z3
            have HCZ := Lib.hid (HMZ.out ⟨1, none, 0, 0, [], []⟩ x4 (HKW.out.trans' HX4.out) (filAt_plain x4 1 [] [] (by decide) (by decide) (by decide)))
            unfold FH.val tv at HCZ
            dsimp only at HCZ
            go_wp2_with fail
            refine HCZ.out.mono ?_
            rintro e x5 ⟨rfl, hk5⟩
            have HX5 := Lib.hid (HX4.out.trans' hk5)
            have hT1 := HT1.out
            have hT2 := HT2.out
            have hT3 := HT3.out
            unfold AskQ at hT1 hT2
            dsimp only at hT1 hT2 hT3
            clear hk5 HCZ HMZ HT1 HT2 HT3
            generalize (mx : Int) = fx at *
            generalize (my : Int) = fy at *
            generalize (mu : Int) = fu at *
            generalize (mv : Int) = fv at *
            generalize (mz : Int) = fz at *
            rcases hT1 with rfl | ⟨rfl, rfl⟩ | ⟨rfl, rfl, rfl⟩ <;> rcases hT2 with rfl | ⟨rfl, rfl⟩ | ⟨rfl, rfl, rfl⟩ <;> rcases hT3 with rfl | ⟨rfl, rfl⟩
            all_goals as_aux_lemma =>
              go_wp2_with fail
              go_roundw
              case rel => exact ⟨1, by go_num, by decide, HX5.out⟩
              case measure => simp [intOf]
          | 1, _ =>
            have HT1 := Lib.hid (turns_x (own := ents l) (ta := ta) (tb := tb) 2 1 (by decide))
            have HT2 := Lib.hid (turns_u (own := ents l) (ta := ta) 2 (by decide))
            have HT3 := Lib.hid (turns_z (own := ents l) 2 (by decide))
            have HMX := Lib.hid (HM.out (.mk 3 [.mk 2 [ta, tb] [] []] [] []))
            have HMY := Lib.hid (HM.out (.mk 1 [.mk 3 [ta] [] [], .mk 3 [tb] [] []] [] []))
            have HMU := Lib.hid (HM.out (.mk 2 [ta] [] []))
            have HMV := Lib.hid (HM.out ta)
            have HMZ := Lib.hid (HM.out (.mk 2 [] [] []))
            generalize meansP (ents l) [] (.mk 3 [.mk 2 [ta, tb] [] []] [] []) = px at HT1 HMX
            generalize meansP (ents l) [] (.mk 1 [.mk 3 [ta] [] [], .mk 3 [tb] [] []] [] []) = py at HT1 HMY
            generalize meansP (ents l) [] (.mk 2 [ta] [] []) = pu at HT2 HMU
            generalize meansP (ents l) [] ta = pv at HT2 HMV
            generalize meansP (ents l) [] (.mk 2 [] [] []) = pz at HT3 HMZ
            obtain ⟨bx, mx⟩ := px
            obtain ⟨b_y, my⟩ := py
            obtain ⟨bu, mu⟩ := pu
            obtain ⟨b_v, mv⟩ := pv
            obtain ⟨bz, mz⟩ := pz
            dsimp only at HT1 HT2 HT3 HMX HMY HMU HMV HMZ
            have HL1 : Hid (FilsAt (wr.alloc (.cells #[.int .i64 2, .slice (some ⟨g, 0, none⟩) 2 2, .string ⟨#[]⟩, .string ⟨#[]⟩] 25)) (some ⟨wr.heap.size, 0, none⟩) 0 [.mk 2 [ta, tb] [] []]) := fils_lit wr [.mk 2 [ta, tb] [] []] [⟨2, some ⟨g, 0, none⟩, 2, 2, [], []⟩] 1 _ rfl rfl rfl (by decide) (fun i t h ht hh => by
              cases i with
              | zero =>
                injection ht with ht
                injection hh with hh
                subst ht hh
                exact filAt_of wr 2 _ _ 2 2 (by decide) rfl (by decide) (by decide) (HFB.out wr HKR.out)
              | succ i => simp at ht)
            have HKL : Hid (Keeps [] wr (wr.alloc (.cells #[.int .i64 2, .slice (some ⟨g, 0, none⟩) 2 2, .string ⟨#[]⟩, .string ⟨#[]⟩] 25))) := (Keeps.refl [] wr).alloc _
            have HCX := Lib.hid (HMX.out ⟨3, some ⟨wr.heap.size, 0, none⟩, 1, 1, [], []⟩ _ (HKW.out.trans' (HKR.out.trans' HKL.out)) (filAt_of _ 3 _ _ 1 1 (by decide) rfl (by decide) (by decide) HL1.out))
            unfold FH.val tv at HCX
            dsimp only at HCX
            go_wp2_with fail
            refine HCX.out.mono ?_
            rintro e x1 ⟨rfl, hk1⟩
            have HX1 := Lib.hid (HKR.out.trans' (HKL.out.trans' hk1))
            clear hk1 HCX HL1 HKL HMX
            have HCY := Lib.hid (HMY.out ⟨1, some ⟨G, 0, none⟩, 2, 2, [], []⟩ x1 (HKW.out.trans' HX1.out) (filAt_of x1 1 _ _ 2 2 (by decide) rfl (by decide) (by decide) (HFN.out x1 HX1.out)))
            unfold FH.val tv at HCY
            dsimp only at HCY
            go_wp2_with fail
            refine HCY.out.mono ?_
            rintro e x2 ⟨rfl, hk2⟩
            have HX2 := Lib.hid (HX1.out.trans' hk2)
            clear hk2 HCY HMY
            have HCU := Lib.hid (HMU.out ⟨2, some ⟨g, 0, none⟩, 1, 2, [], []⟩ x2 (HKW.out.trans' HX2.out) (filAt_of x2 2 [ta] _ 1 2 (by decide) rfl (by decide) (by decide) (fils_take (HFB.out x2 HX2.out) 1)))
            unfold FH.val tv at HCU
            dsimp only at HCU
            go_wp2_with fail
            refine HCU.out.mono ?_
            rintro e x3 ⟨rfl, hk3⟩
            have HX3 := Lib.hid (HX2.out.trans' hk3)
            clear hk3 HCU HMU
            have HCV := Lib.hid (HMV.out ⟨k, B, lb, cb, s, v⟩ x3 (HKW.out.trans' HX3.out) (HAL.out x3 (HKW.out.trans' HX3.out)))
            unfold FH.val tv at HCV
            dsimp only at HCV
            obtain ⟨⟨z0, z1, z2, z3⟩, _⟩ := four_facts8 (blk_keep HBA.out HX3.out (by simp))
            go_wp2_with fail
            refine HCV.out.mono ?_
            rintro e x4 ⟨rfl, hk4⟩
            have HX4 := Lib.hid (HX3.out.trans' hk4)
            clear hk4 HCV HMV z0 z1 z2 z3
            have HCZ := Lib.hid (HMZ.out ⟨2, none, 0, 0, [], []⟩ x4 (HKW.out.trans' HX4.out) (filAt_plain x4 2 [] [] (by decide) (by decide) (by decide)))
            unfold FH.val tv at HCZ
            dsimp only at HCZ
            go_wp2_with fail
            refine HCZ.out.mono ?_
            rintro e x5 ⟨rfl, hk5⟩
            have HX5 := Lib.hid (HX4.out.trans' hk5)
            have hT1 := HT1.out
            have hT2 := HT2.out
            have hT3 := HT3.out
            unfold AskQ at hT1 hT2
            dsimp only at hT1 hT2 hT3
            clear hk5 HCZ HMZ HT1 HT2 HT3
            generalize (mx : Int) = fx at *
            generalize (my : Int) = fy at *
            generalize (mu : Int) = fu at *
            generalize (mv : Int) = fv at *
            generalize (mz : Int) = fz at *
            rcases hT1 with rfl | ⟨rfl, rfl⟩ | ⟨rfl, rfl, rfl⟩ <;> rcases hT2 with rfl | ⟨rfl, rfl⟩ | ⟨rfl, rfl, rfl⟩ <;> rcases hT3 with rfl | ⟨rfl, rfl⟩
            all_goals as_aux_lemma =>
              go_wp2_with fail
              go_roundw
              case rel => exact ⟨2, by go_num, by decide, HX5.out⟩
              case measure => simp [intOf]
          | 2, _ =>
            go_wp2_with fail
            refine (HKN.out _ (HKW.out.trans' HKR.out)).mono ?_
            rintro e w9 ⟨rfl, hk9⟩
            have HK9 := Lib.hid ((HKW.out.trans' HKR.out).trans' hk9)
            clear hk9
            go_wp2_with fail
            go_ret
            exact ⟨rfl, HK9.out⟩
          | j + 3, hj => omega
end Go.Proofs.YtoggddoeanfjeaaGreatDoor
