/- Texts of one proof, laid together: F57. -/
import Derived.Test.YtoggddoeanfjeaaGreatDoorMD2
import Derived.Test.YtoggddoeanfjeaaGreatDoorMC0
import Derived.Test.YtoggddoeanfjeaaGreatDoorMD5
import Derived.Test.YtoggddoeanfjeaaGreatDoorMD4
import Derived.Test.YtoggddoeanfjeaaGreatDoorMD6
import Derived.Test.YtoggddoeanfjeaaGreatDoorMD8
import Derived.BigQuiet
/- filter: the law FilterMore; walked. -/
namespace Go.Proofs.YtoggddoeanfjeaaGreatDoor
open Go.RowKit Go.Shelf
set_option linter.unusedVariables false
set_option linter.unusedSimpArgs false
set_option maxRecDepth 100000

set_option maxHeartbeats 16000000 in
theorem filtermore_any (t : FV) (h : FH) (A : Option Addr) (n c : Nat) (lo : List At7) (B : Option Addr) (m d : Nat) (lb : List At7) (w : World) (ht : FilAt w t h) (hE : EntIn w A n lo) (hB : EntIn w B m lb) (hmd : m ≤ d) (hdm : d ≤ 9223372036854775807) (hG : SgnAt w) (hs : SynAt w) :
    Calls Tryz.prog 9 #[h.val, .slice A n c, .slice B m d] w fun e w' => e = .returned (.bool true) ∧ Keeps [] w w' := by
  obtain ⟨iu, hiu, hzu0, hzu1, hzu2⟩ := info_parts attr_info7
  have HKN := Lib.hid (fun X (hX : Keeps [] w X) => known8_is X (hG.keep hX) (hs.keep hX (by simp)))
  have HEN := Lib.hid (fun X (hX : Keeps [] w X) => entries8_is A n c lo X (hE.grow hX))
  have HEM := Lib.hid (fun X (hX : Keeps [] w X) => entries8_is B m d lb X (hB.grow hX))
  have HLA := Lib.hid (fun X (hX : Keeps [] w X) => light8_law t h X (FilAt.grow hX t h ht))
  have HM0 := Lib.hid (fun (hl : LightE8 lo) (hl2 : LightE8 lb) X (hX : Keeps [] w X) => means8_is ⟨A, n, c, B, m, d⟩ lo lb t h X ⟨hE.grow hX, hl.few 100000 (by omega), hB.grow hX, hl2.few 100000 (by omega)⟩ (FilAt.grow hX t h ht))
  have HRR := Lib.hid (fun X (hX : Keeps [] w X) => rright8_is t h X (FilAt.grow hX t h ht))
  have HRE := Lib.hid (fun (hl : LightE8 lo) X (hX : Keeps [] w X) => rright7_is A n c lo X (hE.grow hX) (hl.few 100000 (by omega)))
  have HRM := Lib.hid (fun (hr : rightF t = true) (A1 : Option Addr) (n1 c1 : Nat) (L1 : List At7) X (hX : Keeps [] w X) (h1 : EntIn X A1 n1 L1) (h2 : n1 ≤ 100000) => rmeans8_is A1 n1 c1 L1 t h X (by
    unfold rightF at hr
    obtain ⟨q, hq⟩ := Option.isSome_iff_exists.1 hr
    exact ⟨1, 0, q, hq⟩) (FilAt.grow hX t h ht) h1 h2)
  have HEA := Lib.hid hE
  have HEB := Lib.hid hB
  generalize decide (0 ≤ leftV 1 4000 t) = la at HLA
  obtain ⟨k, B0, lb0, cb0, s, v⟩ := h
  clear ht hE hB hG hs
  unfold MnsQ at HM0
  unfold FH.val tv at HLA HM0 HRR HRM ⊢
  dsimp only at HLA HM0 HRR HRM ⊢
  have HKB : Hid (Keeps [] w (w.alloc (.cells #[.int .i64 k, .slice B0 lb0 cb0, .string ⟨s.toArray⟩, .string ⟨v.toArray⟩] 25))) := (Keeps.refl [] w).alloc _
  have HBA := Lib.hid (heap_new8 w (.cells #[.int .i64 k, .slice B0 lb0 cb0, .string ⟨s.toArray⟩, .string ⟨v.toArray⟩] 25))
  obtain ⟨⟨z0, z1, z2, z3⟩, _⟩ := four_facts8 HBA.out
  go_enter Tryz.func9, Tryz.ntmps9
  go_wp2_with fail
  generalize w.alloc (.cells #[.int .i64 k, .slice B0 lb0 cb0, .string ⟨s.toArray⟩, .string ⟨v.toArray⟩] 25) = W1 at HKB HBA z0 z1 z2 z3 ⊢
  refine (HLA.out _ HKB.out).mono ?_
  rintro e w2 ⟨rfl, hk2⟩
  have HK2 := Lib.hid (HKB.out.trans' hk2)
  have HBA2 := Lib.hid (blk_keep HBA.out hk2 (by simp))
  clear hk2 z0 z1 z2 z3
  cases la
  · go_wp2_with fail
    refine (HKN.out _ HK2.out).mono ?_
    rintro e w9 ⟨rfl, hk9⟩
    have HK9 := Lib.hid (HK2.out.trans' hk9)
    clear hk9
    go_wp2_with fail
    go_ret
    exact ⟨by first | rfl | simp, HK9.out⟩
  · go_wp2_with fail
    refine (HEN.out _ HK2.out).mono ?_
    rintro e w4 ⟨r1, rfl, hr1, rfl⟩
    cases r1
    · clear hr1
      go_wp2_with fail
      refine (HKN.out _ HK2.out).mono ?_
      rintro e w9 ⟨rfl, hk9⟩
      have HK9 := Lib.hid (HK2.out.trans' hk9)
      clear hk9
      go_wp2_with fail
      go_ret
      exact ⟨by first | rfl | simp, HK9.out⟩
    · have HLI : Hid (LightE8 lo) := hr1 rfl
      clear hr1
      by_cases hm5 : (5 : Int) < (m : Int)
      · go_wp2_with fail
        refine (HKN.out _ HK2.out).mono ?_
        rintro e w9 ⟨rfl, hk9⟩
        have HK9 := Lib.hid (HK2.out.trans' hk9)
        clear hk9
        go_wp2_with fail
        go_ret
        exact ⟨by first | rfl | simp, HK9.out⟩
      · have hm9 : m ≤ 5 := by omega
        go_wp2_with fail
        refine (HEM.out _ HK2.out).mono ?_
        rintro e w4 ⟨r1, rfl, hr1, rfl⟩
        cases r1
        · clear hr1
          go_wp2_with fail
          refine (HKN.out _ HK2.out).mono ?_
          rintro e w9 ⟨rfl, hk9⟩
          have HK9 := Lib.hid (HK2.out.trans' hk9)
          clear hk9
          go_wp2_with fail
          go_ret
          exact ⟨by first | rfl | simp, HK9.out⟩
        · have HLB : Hid (LightE8 lb) := hr1 rfl
          clear hr1
          have hn9 : n ≤ 30 := by have := HLI.out.1; rw [HEA.out.1] at this; exact this
          obtain ⟨⟨z0, z1, z2, z3⟩, _⟩ := four_facts8 HBA2.out
          have HMT := Lib.hid (HM0.out HLI.out HLB.out)
          have HPO := Lib.hid (means_more (ents lo) (ents lb) t)
          generalize meansP (ents lo) (ents lb) t = P at HMT HPO
          obtain ⟨pb, pm⟩ := P
          dsimp only at HMT HPO
          have HPO2 : Hid ((BesOk (rightF t && entOk (ents lo)) (ents lb) → pb = meanF (ents lo) (ents lb) (lowF t) ∧ (pm : Int) = 0) ∧ (¬ BesOk (rightF t && entOk (ents lo)) (ents lb) → pb = false ∧ (pm : Int) = 2)) := ⟨fun h => by have := HPO.out.1 h; injection this with h1 h2; subst h1 h2; exact ⟨rfl, rfl⟩, fun h => by have := HPO.out.2 h; injection this with h1 h2; subst h1 h2; exact ⟨rfl, rfl⟩⟩
          generalize (pm : Int) = pz at HMT HPO2
          have HRE2 := Lib.hid (HRE.out HLI.out)
          clear HM0 HPO HRE HEM HEN HLA hm5
          go_wp2_with fail
          refine (HMT.out _ HK2.out).mono ?_
          rintro e w3 ⟨rfl, hk3⟩
          have HK3 := Lib.hid (HK2.out.trans' hk3)
          have HBA3 := Lib.hid (blk_keep HBA2.out hk3 (by simp))
          obtain ⟨⟨y0, y1, y2, y3⟩, _⟩ := four_facts8 HBA3.out
          clear hk3 z0 z1 z2 z3 HMT
          go_wp2_with fail
          refine (HRR.out _ HK3.out).mono ?_
          rintro e w4 ⟨rfl, hk4⟩
          have HK4 := Lib.hid (HK3.out.trans' hk4)
          have HBA4 := Lib.hid (blk_keep HBA3.out hk4 (by simp))
          clear hk4 y0 y1 y2 y3
          cases hrf : rightF t with
          | false =>
            rw [hrf, Bool.false_and] at HPO2
            have HKW := HK4
            have HBW := HBA4
            clear hrf
            obtain ⟨V, hV⟩ : ∃ V : World, V = w4 := ⟨_, rfl⟩
            subst hV
            have HSR := Lib.hid (EntIn.src (EntIn.grow HKW.out HEB.out))
            have HLL : Hid ((atCells lb).length = m * 2) := by show _ = _; rw [atCells_len, HEB.out.1]
            go_wp2_with (at_builtin; refine wpList_append_two rfl (.const (.slice none 0 0)) (.tmp 46) 27 26 rfl V.heap.size 55 55 iu _ 2 40 Tryz.underlying27 Tryz.underlying26 hiu hzu0 hzu1 hzu2 rfl (by decide) (.slice none 0 0) 0 [] rfl (World.ownsRow_nil _ _ _ _) B m d (atCells lb) rfl HLL.out HSR.out (atCells_one8 lb) (by unfold maxLen; omega) (by omega) (Nat.le_refl _) ?_; intro v1 w1 ho1 hg1 hs1; obtain ⟨A1, c1, hv1⟩ := own_slice ho1; subst hv1; rw [Nat.zero_add, List.nil_append] at ho1; rw [Nat.zero_add]; have HS1 : Hid (SetS V w1 A1 m c1 lb (ents lb)) := ⟨rfl, HEB.out.1, ho1, fun a ha => (HEB.out.2.1 a ha).grow HKW.out, keeps_own7 (World.ownsRow_nil V V.heap.size 55 2) (Keeps.refl _ _) hg1⟩; clear ho1 hg1 hs1)
            have HKV1 : Hid (Keeps [] w w1) := HKW.out.trans' HS1.out.keep
            go_wp2_with fail
            go_loopw [9, 11] (fun a i wr => ∃ (b : Bool) (j : Nat), a = .bool b ∧ i = .int .i64 (j : Int) ∧ j ≤ m ∧ Hid (b = true ↔ BesOk false ((ents lb).take j)) ∧ Hid (Keeps [] w1 wr)) (fun _ i _ => m - (intOf i).toNat)
            case atStart => exact ⟨_, 0, rfl, rfl, Nat.zero_le _, ⟨fun h => ⟨h, by simp, by simp [namesT]⟩, fun h => h.1⟩, Keeps.refl _ _⟩
            case round =>
              obtain ⟨b, j, rfl, rfl, hj, HBJ, HKR⟩ := hrel
              by_cases hlt : j < m
              · obtain ⟨bb, ob, hBB, hcc0⟩ := HEB.out.2.2 (by omega)
                subst hBB
                clear hcc0
                have HCC : Hid (∀ X, Keeps [] w1 X → ∀ (i : Nat) (a : At7), lb[i]? = some a → X.cell? ⟨bb, ob + i * 2, none⟩ = some (tv a.name) ∧ X.cell? ⟨bb, ob + i * 2 + 1, none⟩ = some (.slice a.A a.n a.c)) := fun X hX i a ha => by
                  obtain ⟨b9, o9, e9, hc9⟩ := (EntIn.grow (HKV1.out.trans' hX) HEB.out).2.2 (by have := (List.getElem?_eq_some_iff.1 ha).1; rw [HEB.out.1] at this; omega)
                  cases e9
                  exact hc9 i a ha
                obtain ⟨a, hu⟩ : ∃ a, lb[j]? = some a := ⟨_, List.getElem?_eq_getElem (by have := HEB.out.1; omega)⟩
                have HRA := Lib.hid (fun X (hX : Keeps [] w1 X) => rright7_is (some ⟨bb, ob + j * 2, none⟩) 1 (d - j) [a] X (ents_one (EntIn.grow (HKV1.out.trans' hX) HEB.out) hu) ⟨by simp, fun x hx => by rw [List.mem_singleton.1 hx]; have := (HLB.out.2 a (List.mem_of_getElem? hu)).1; omega⟩)
                have hsl := slice_one7 bb ob m d j hlt hmd hdm
                have hji : (j : Int) < (m : Int) := by omega
                have hj0 : (0 : Int) ≤ (j : Int) := by omega
                have hjd : (j : Int) + 1 ≤ (d : Int) := by omega
                have hw1 : IntKind.i64.wrap ((j : Int) + 1) = (j : Int) + 1 := IntWalk.i64_in _ (by omega)
                have HU0 := Lib.hid hu
                obtain ⟨nm, aA, an, ac, avs⟩ := a
                have HU : Hid (lb[j]? = some ⟨nm, aA, an, ac, avs⟩) := hu
                clear hu HU0
                cases b
                · have HKV := HKR
                  clear hw1 hjd hsl
                  go_wp2_with fail
                  obtain ⟨V2, hV2⟩ : ∃ V2 : World, V2 = wr := ⟨_, rfl⟩
                  subst hV2
                  go_loopw [9, 12] (fun a i wr => ∃ (b2 : Bool) (q : Nat), a = .bool b2 ∧ i = .int .i64 (q : Int) ∧ q ≤ j ∧ Hid (b2 = true ↔ (BesOk false ((ents lb).take j) ∧ entOk [(nm, avs)] = true ∧ ∀ x ∈ (ents lb).take q, x.1 ≠ nm)) ∧ Hid (Keeps [] w1 wr)) (fun _ i _ => j - (intOf i).toNat)
                  case atStart => exact ⟨_, 0, rfl, rfl, Nat.zero_le _, ⟨fun h => (by cases h), fun h => (by have := HBJ.out.2 h.1; cases this)⟩, HKV.out⟩
                  case round =>
                    obtain ⟨b2, q, rfl, rfl, hq, HB2, HKQ⟩ := hrel
                    by_cases hltq : q < j
                    · obtain ⟨x, hx⟩ : ∃ x, lb[q]? = some x := ⟨_, List.getElem?_eq_getElem (by have := HEB.out.1; omega)⟩
                      have HXQ := Lib.hid hx
                      have hqi : (q : Int) < (m : Int) := by omega
                      have hq0 : (0 : Int) ≤ (q : Int) := by omega
                      have hji : (j : Int) < (m : Int) := by omega
                      have hj0 : (0 : Int) ≤ (j : Int) := by omega
                      have hqj : (q : Int) < (j : Int) := by omega
                      have HTK : Hid ((ents lb).take (q + 1) = (ents lb).take q ++ [x.att]) := by show _ = _; rw [List.take_add_one, ents_at hx]; rfl
                      obtain ⟨hd0, _⟩ := HCC.out wr HKQ.out q x hx
                      obtain ⟨hd1, _⟩ := HCC.out wr HKQ.out j ⟨nm, aA, an, ac, avs⟩ HU.out
                      obtain ⟨xn, xA, xm, xc, xvs⟩ := x
                      dsimp only at hd0 hd1
                      unfold tv at hd0 hd1
                      clear hx
                      cases b2
                      · have HB3 : Hid (¬ (BesOk false ((ents lb).take j) ∧ entOk [(nm, avs)] = true ∧ ∀ x ∈ (ents lb).take (q + 1), x.1 ≠ nm)) := by
                          intro h
                          have h9 := HB2.out.2 ⟨h.1, h.2.1, fun x hx => h.2.2 x (by rw [HTK.out]; exact List.mem_append.2 (.inl hx))⟩
                          cases h9
                        go_wp2_with fail
                        refine region_Y (by kernel_rfl) (by kernel_rfl) (fun Z hon hoff hend => ?_)
                        refine hon _ _ _ ?Aq1 (by kernel_rfl) ?Bq1 ?Cq1
                        case Bq1 =>
                          intro K hK
                          go_simp
                          exact hK
                        refine hon _ _ _ ?Aq2 (by kernel_rfl) ?Bq2 ?Cq2
                        case Bq2 =>
                          intro K hK
                          go_simp
                          exact hK
                        refine hoff _ _ _ (by kernel_rfl) ?_
                        refine hoff _ _ _ (by kernel_rfl) ?_
                        refine hoff _ _ _ (by kernel_rfl) ?_
                        refine hoff _ _ _ (by kernel_rfl) ?_
                        refine hoff _ _ _ (by kernel_rfl) ?_
                        refine hoff _ _ _ (by kernel_rfl) ?_
                        refine hoff _ _ _ (by kernel_rfl) ?_
                        refine hoff _ _ _ (by kernel_rfl) ?_
                        refine hoff _ _ _ (by kernel_rfl) ?_
                        refine hoff _ _ _ (by kernel_rfl) ?_
                        refine hoff _ _ _ (by kernel_rfl) ?_
                        refine hon _ _ _ ?Aq3 (by kernel_rfl) ?Bq3 ?Cq3
                        case Bq3 =>
                          intro K hK
                          go_simp
                          exact hK
                        refine hon _ _ _ ?Aq4 (by kernel_rfl) ?Bq4 ?Cq4
                        case Bq4 =>
                          intro K hK
                          go_simp
                          exact hK
                        refine hend _ ?_
                        clear hon hoff hend Z
                        change Exit.inBlock 3 _ _ _ wr.drew
                        have HKD := Lib.hid HKQ.out.drew
                        generalize wr.drew = wd at *
                        go_wp2_with fail
                        go_roundw
                        case rel => exact ⟨false, q + 1, rfl, by go_num, by omega, ⟨fun h => (by cases h), fun h => absurd h HB3.out⟩, HKD.out⟩
                        case measure => simp [intOf]; omega
                      · by_cases hsame : xn = nm
                        · subst hsame
                          have HB3 : Hid (¬ (BesOk false ((ents lb).take j) ∧ entOk [(xn, avs)] = true ∧ ∀ x ∈ (ents lb).take (q + 1), x.1 ≠ xn)) := by
                            intro h
                            exact absurd rfl (h.2.2 (xn, xvs) (by rw [HTK.out]; exact List.mem_append.2 (.inr (List.mem_singleton.2 rfl))))
                          go_wp2_with fail
                          go_still (by kernel_rfl)
                          go_wp2_with fail
                          go_roundw
                          case rel => exact ⟨false, q + 1, by simp, by go_num, by omega, ⟨fun h => (by cases h), fun h => absurd h HB3.out⟩, by first | exact HKQ.out | exact HKQ.out.drew⟩
                          case measure => simp [intOf]; omega
                        · have hne : (xn == nm) = false := by simpa using hsame
                          have HB3 : Hid (BesOk false ((ents lb).take j) ∧ entOk [(nm, avs)] = true ∧ ∀ x ∈ (ents lb).take (q + 1), x.1 ≠ nm) := by
                            obtain ⟨g1, g2, g3⟩ := HB2.out.1 (by first | rfl | trivial)
                            refine ⟨g1, g2, fun x hx => ?_⟩
                            rw [HTK.out] at hx
                            rcases List.mem_append.1 hx with hx | hx
                            · exact g3 x hx
                            · rw [List.mem_singleton.1 hx]; exact hsame
                          clear hsame
                          go_wp2_with fail
                          go_still (by kernel_rfl)
                          go_wp2_with fail
                          go_roundw
                          case rel => exact ⟨true, q + 1, by simp [hne], by go_num, by omega, ⟨fun _ => HB3.out, fun _ => rfl⟩, by first | exact HKQ.out | exact HKQ.out.drew⟩
                          case measure => simp [intOf]; omega
                    · obtain rfl : q = j := by omega
                      have HB4 : Hid (b2 = true ↔ BesOk false ((ents lb).take (q + 1))) := by
                        show _ ↔ _
                        rw [List.take_add_one, ents_at HU.out]
                        exact HB2.out.trans bes_snoc.symm
                      go_wp2_with fail
                      go_roundw
                      case rel => exact ⟨b2, q + 1, rfl, by go_num, by omega, HB4.out, HKQ.out⟩
                      case measure => simp [intOf]; omega
                · rw [show ents [⟨nm, aA, an, ac, avs⟩] = [(nm, avs)] from rfl] at HRA
                  obtain ⟨ea, hea⟩ : ∃ ea, entOk [(nm, avs)] = ea := ⟨_, rfl⟩
                  have HEE := Lib.hid hea
                  rw [hea] at HRA
                  clear hea
                  go_wp2_with fail
                  refine (HRA.out wr HKR.out).mono ?_
                  rintro e w7 ⟨rfl, hk7⟩
                  have HKV := Lib.hid (HKR.out.trans' hk7)
                  clear hk7 hsl hw1 hjd
                  go_wp2_with fail
                  obtain ⟨V2, hV2⟩ : ∃ V2 : World, V2 = w7 := ⟨_, rfl⟩
                  subst hV2
                  go_loopw [9, 12] (fun a i wr => ∃ (b2 : Bool) (q : Nat), a = .bool b2 ∧ i = .int .i64 (q : Int) ∧ q ≤ j ∧ Hid (b2 = true ↔ (BesOk false ((ents lb).take j) ∧ entOk [(nm, avs)] = true ∧ ∀ x ∈ (ents lb).take q, x.1 ≠ nm)) ∧ Hid (Keeps [] w1 wr)) (fun _ i _ => j - (intOf i).toNat)
                  case atStart => exact ⟨_, 0, rfl, rfl, Nat.zero_le _, ⟨fun h => ⟨HBJ.out.1 (by first | rfl | trivial), (by rw [HEE.out]; exact h), fun x hx => (by simp at hx)⟩, fun h => (by rw [← HEE.out]; exact h.2.1)⟩, HKV.out⟩
                  case round =>
                    obtain ⟨b2, q, rfl, rfl, hq, HB2, HKQ⟩ := hrel
                    by_cases hltq : q < j
                    · obtain ⟨x, hx⟩ : ∃ x, lb[q]? = some x := ⟨_, List.getElem?_eq_getElem (by have := HEB.out.1; omega)⟩
                      have HXQ := Lib.hid hx
                      have hqi : (q : Int) < (m : Int) := by omega
                      have hq0 : (0 : Int) ≤ (q : Int) := by omega
                      have hji : (j : Int) < (m : Int) := by omega
                      have hj0 : (0 : Int) ≤ (j : Int) := by omega
                      have hqj : (q : Int) < (j : Int) := by omega
                      have HTK : Hid ((ents lb).take (q + 1) = (ents lb).take q ++ [x.att]) := by show _ = _; rw [List.take_add_one, ents_at hx]; rfl
                      obtain ⟨hd0, _⟩ := HCC.out wr HKQ.out q x hx
                      obtain ⟨hd1, _⟩ := HCC.out wr HKQ.out j ⟨nm, aA, an, ac, avs⟩ HU.out
                      obtain ⟨xn, xA, xm, xc, xvs⟩ := x
                      dsimp only at hd0 hd1
                      unfold tv at hd0 hd1
                      clear hx
                      cases b2
                      · have HB3 : Hid (¬ (BesOk false ((ents lb).take j) ∧ entOk [(nm, avs)] = true ∧ ∀ x ∈ (ents lb).take (q + 1), x.1 ≠ nm)) := by
                          intro h
                          have h9 := HB2.out.2 ⟨h.1, h.2.1, fun x hx => h.2.2 x (by rw [HTK.out]; exact List.mem_append.2 (.inl hx))⟩
                          cases h9
                        go_wp2_with fail
                        refine region_Y (by kernel_rfl) (by kernel_rfl) (fun Z hon hoff hend => ?_)
                        refine hon _ _ _ ?Ar1 (by kernel_rfl) ?Br1 ?Cr1
                        case Br1 =>
                          intro K hK
                          go_simp
                          exact hK
                        refine hon _ _ _ ?Ar2 (by kernel_rfl) ?Br2 ?Cr2
                        case Br2 =>
                          intro K hK
                          go_simp
                          exact hK
                        refine hoff _ _ _ (by kernel_rfl) ?_
                        refine hoff _ _ _ (by kernel_rfl) ?_
                        refine hoff _ _ _ (by kernel_rfl) ?_
                        refine hoff _ _ _ (by kernel_rfl) ?_
                        refine hoff _ _ _ (by kernel_rfl) ?_
                        refine hoff _ _ _ (by kernel_rfl) ?_
                        refine hoff _ _ _ (by kernel_rfl) ?_
                        refine hoff _ _ _ (by kernel_rfl) ?_
                        refine hoff _ _ _ (by kernel_rfl) ?_
                        refine hoff _ _ _ (by kernel_rfl) ?_
                        refine hoff _ _ _ (by kernel_rfl) ?_
                        refine hon _ _ _ ?Ar3 (by kernel_rfl) ?Br3 ?Cr3
                        case Br3 =>
                          intro K hK
                          go_simp
                          exact hK
                        refine hon _ _ _ ?Ar4 (by kernel_rfl) ?Br4 ?Cr4
                        case Br4 =>
                          intro K hK
                          go_simp
                          exact hK
                        refine hend _ ?_
                        clear hon hoff hend Z
                        change Exit.inBlock 3 _ _ _ wr.drew
                        have HKD := Lib.hid HKQ.out.drew
                        generalize wr.drew = wd at *
                        go_wp2_with fail
                        go_roundw
                        case rel => exact ⟨false, q + 1, rfl, by go_num, by omega, ⟨fun h => (by cases h), fun h => absurd h HB3.out⟩, HKD.out⟩
                        case measure => simp [intOf]; omega
                      · by_cases hsame : xn = nm
                        · subst hsame
                          have HB3 : Hid (¬ (BesOk false ((ents lb).take j) ∧ entOk [(xn, avs)] = true ∧ ∀ x ∈ (ents lb).take (q + 1), x.1 ≠ xn)) := by
                            intro h
                            exact absurd rfl (h.2.2 (xn, xvs) (by rw [HTK.out]; exact List.mem_append.2 (.inr (List.mem_singleton.2 rfl))))
                          go_wp2_with fail
                          go_still (by kernel_rfl)
                          go_wp2_with fail
                          go_roundw
                          case rel => exact ⟨false, q + 1, by simp, by go_num, by omega, ⟨fun h => (by cases h), fun h => absurd h HB3.out⟩, by first | exact HKQ.out | exact HKQ.out.drew⟩
                          case measure => simp [intOf]; omega
                        · have hne : (xn == nm) = false := by simpa using hsame
                          have HB3 : Hid (BesOk false ((ents lb).take j) ∧ entOk [(nm, avs)] = true ∧ ∀ x ∈ (ents lb).take (q + 1), x.1 ≠ nm) := by
                            obtain ⟨g1, g2, g3⟩ := HB2.out.1 (by first | rfl | trivial)
                            refine ⟨g1, g2, fun x hx => ?_⟩
                            rw [HTK.out] at hx
                            rcases List.mem_append.1 hx with hx | hx
                            · exact g3 x hx
                            · rw [List.mem_singleton.1 hx]; exact hsame
                          clear hsame
                          go_wp2_with fail
                          go_still (by kernel_rfl)
                          go_wp2_with fail
                          go_roundw
                          case rel => exact ⟨true, q + 1, by simp [hne], by go_num, by omega, ⟨fun _ => HB3.out, fun _ => rfl⟩, by first | exact HKQ.out | exact HKQ.out.drew⟩
                          case measure => simp [intOf]; omega
                    · obtain rfl : q = j := by omega
                      have HB4 : Hid (b2 = true ↔ BesOk false ((ents lb).take (q + 1))) := by
                        show _ ↔ _
                        rw [List.take_add_one, ents_at HU.out]
                        exact HB2.out.trans bes_snoc.symm
                      go_wp2_with fail
                      go_roundw
                      case rel => exact ⟨b2, q + 1, rfl, by go_num, by omega, HB4.out, HKQ.out⟩
                      case measure => simp [intOf]; omega
              · obtain rfl : m = j := by omega
                have HB9 : Hid (b = true ↔ BesOk false (ents lb)) := by
                  have h9 := HBJ.out
                  rw [List.take_of_length_le (by rw [ents_len, HEB.out.1]; exact Nat.le_refl _)] at h9
                  exact h9
                cases b
                · obtain ⟨rfl, rfl⟩ := HPO2.out.2 (fun h => by have := HB9.out.2 h; cases this)
                  have HKQ := Lib.hid (HKV1.out.trans' HKR.out)
                  clear hlt hj
                  go_wp2_with fail
                  refine (HKN.out _ HKQ.out).mono ?_
                  rintro e w9 ⟨rfl, hk9⟩
                  have HK9 := Lib.hid (HKQ.out.trans' hk9)
                  clear hk9
                  go_wp2_with fail
                  go_ret
                  exact ⟨by first | rfl | simp, HK9.out⟩
                · exact absurd (HB9.out.1 (by first | rfl | trivial)).1 (by simp)
          | true =>
            rw [hrf, Bool.true_and] at HPO2
            have HRF := Lib.hid hrf
            clear hrf
            generalize entOk (ents lo) = eo at HPO2 HRE2
            go_wp2_with fail
            refine (HRE2.out _ HK4.out).mono ?_
            rintro e w5 ⟨rfl, hk5⟩
            have HKW := Lib.hid (HK4.out.trans' hk5)
            have HBW := Lib.hid (blk_keep HBA4.out hk5 (by simp))
            clear hk5
            obtain ⟨V, hV⟩ : ∃ V : World, V = w5 := ⟨_, rfl⟩
            subst hV
            have HSR := Lib.hid (EntIn.src (EntIn.grow HKW.out HEB.out))
            have HLL : Hid ((atCells lb).length = m * 2) := by show _ = _; rw [atCells_len, HEB.out.1]
            go_wp2_with (at_builtin; refine wpList_append_two rfl (.const (.slice none 0 0)) (.tmp 46) 27 26 rfl V.heap.size 55 55 iu _ 2 40 Tryz.underlying27 Tryz.underlying26 hiu hzu0 hzu1 hzu2 rfl (by decide) (.slice none 0 0) 0 [] rfl (World.ownsRow_nil _ _ _ _) B m d (atCells lb) rfl HLL.out HSR.out (atCells_one8 lb) (by unfold maxLen; omega) (by omega) (Nat.le_refl _) ?_; intro v1 w1 ho1 hg1 hs1; obtain ⟨A1, c1, hv1⟩ := own_slice ho1; subst hv1; rw [Nat.zero_add, List.nil_append] at ho1; rw [Nat.zero_add]; have HS1 : Hid (SetS V w1 A1 m c1 lb (ents lb)) := ⟨rfl, HEB.out.1, ho1, fun a ha => (HEB.out.2.1 a ha).grow HKW.out, keeps_own7 (World.ownsRow_nil V V.heap.size 55 2) (Keeps.refl _ _) hg1⟩; clear ho1 hg1 hs1)
            have HKV1 : Hid (Keeps [] w w1) := HKW.out.trans' HS1.out.keep
            go_wp2_with fail
            go_loopw [9, 11] (fun a i wr => ∃ (b : Bool) (j : Nat), a = .bool b ∧ i = .int .i64 (j : Int) ∧ j ≤ m ∧ Hid (b = true ↔ BesOk eo ((ents lb).take j)) ∧ Hid (Keeps [] w1 wr)) (fun _ i _ => m - (intOf i).toNat)
            case atStart => exact ⟨_, 0, rfl, rfl, Nat.zero_le _, ⟨fun h => ⟨h, by simp, by simp [namesT]⟩, fun h => h.1⟩, Keeps.refl _ _⟩
            case round =>
              obtain ⟨b, j, rfl, rfl, hj, HBJ, HKR⟩ := hrel
              by_cases hlt : j < m
              · obtain ⟨bb, ob, hBB, hcc0⟩ := HEB.out.2.2 (by omega)
                subst hBB
                clear hcc0
                have HCC : Hid (∀ X, Keeps [] w1 X → ∀ (i : Nat) (a : At7), lb[i]? = some a → X.cell? ⟨bb, ob + i * 2, none⟩ = some (tv a.name) ∧ X.cell? ⟨bb, ob + i * 2 + 1, none⟩ = some (.slice a.A a.n a.c)) := fun X hX i a ha => by
                  obtain ⟨b9, o9, e9, hc9⟩ := (EntIn.grow (HKV1.out.trans' hX) HEB.out).2.2 (by have := (List.getElem?_eq_some_iff.1 ha).1; rw [HEB.out.1] at this; omega)
                  cases e9
                  exact hc9 i a ha
                obtain ⟨a, hu⟩ : ∃ a, lb[j]? = some a := ⟨_, List.getElem?_eq_getElem (by have := HEB.out.1; omega)⟩
                have HRA := Lib.hid (fun X (hX : Keeps [] w1 X) => rright7_is (some ⟨bb, ob + j * 2, none⟩) 1 (d - j) [a] X (ents_one (EntIn.grow (HKV1.out.trans' hX) HEB.out) hu) ⟨by simp, fun x hx => by rw [List.mem_singleton.1 hx]; have := (HLB.out.2 a (List.mem_of_getElem? hu)).1; omega⟩)
                have hsl := slice_one7 bb ob m d j hlt hmd hdm
                have hji : (j : Int) < (m : Int) := by omega
                have hj0 : (0 : Int) ≤ (j : Int) := by omega
                have hjd : (j : Int) + 1 ≤ (d : Int) := by omega
                have hw1 : IntKind.i64.wrap ((j : Int) + 1) = (j : Int) + 1 := IntWalk.i64_in _ (by omega)
                have HU0 := Lib.hid hu
                obtain ⟨nm, aA, an, ac, avs⟩ := a
                have HU : Hid (lb[j]? = some ⟨nm, aA, an, ac, avs⟩) := hu
                clear hu HU0
                cases b
                · have HKV := HKR
                  clear hw1 hjd hsl
                  go_wp2_with fail
                  obtain ⟨V2, hV2⟩ : ∃ V2 : World, V2 = wr := ⟨_, rfl⟩
                  subst hV2
                  go_loopw [9, 12] (fun a i wr => ∃ (b2 : Bool) (q : Nat), a = .bool b2 ∧ i = .int .i64 (q : Int) ∧ q ≤ j ∧ Hid (b2 = true ↔ (BesOk eo ((ents lb).take j) ∧ entOk [(nm, avs)] = true ∧ ∀ x ∈ (ents lb).take q, x.1 ≠ nm)) ∧ Hid (Keeps [] w1 wr)) (fun _ i _ => j - (intOf i).toNat)
                  case atStart => exact ⟨_, 0, rfl, rfl, Nat.zero_le _, ⟨fun h => (by cases h), fun h => (by have := HBJ.out.2 h.1; cases this)⟩, HKV.out⟩
                  case round =>
                    obtain ⟨b2, q, rfl, rfl, hq, HB2, HKQ⟩ := hrel
                    by_cases hltq : q < j
                    · obtain ⟨x, hx⟩ : ∃ x, lb[q]? = some x := ⟨_, List.getElem?_eq_getElem (by have := HEB.out.1; omega)⟩
                      have HXQ := Lib.hid hx
                      have hqi : (q : Int) < (m : Int) := by omega
                      have hq0 : (0 : Int) ≤ (q : Int) := by omega
                      have hji : (j : Int) < (m : Int) := by omega
                      have hj0 : (0 : Int) ≤ (j : Int) := by omega
                      have hqj : (q : Int) < (j : Int) := by omega
                      have HTK : Hid ((ents lb).take (q + 1) = (ents lb).take q ++ [x.att]) := by show _ = _; rw [List.take_add_one, ents_at hx]; rfl
                      obtain ⟨hd0, _⟩ := HCC.out wr HKQ.out q x hx
                      obtain ⟨hd1, _⟩ := HCC.out wr HKQ.out j ⟨nm, aA, an, ac, avs⟩ HU.out
                      obtain ⟨xn, xA, xm, xc, xvs⟩ := x
                      dsimp only at hd0 hd1
                      unfold tv at hd0 hd1
                      clear hx
                      cases b2
                      · have HB3 : Hid (¬ (BesOk eo ((ents lb).take j) ∧ entOk [(nm, avs)] = true ∧ ∀ x ∈ (ents lb).take (q + 1), x.1 ≠ nm)) := by
                          intro h
                          have h9 := HB2.out.2 ⟨h.1, h.2.1, fun x hx => h.2.2 x (by rw [HTK.out]; exact List.mem_append.2 (.inl hx))⟩
                          cases h9
                        go_wp2_with fail
                        refine region_Y (by kernel_rfl) (by kernel_rfl) (fun Z hon hoff hend => ?_)
                        refine hon _ _ _ ?As1 (by kernel_rfl) ?Bs1 ?Cs1
                        case Bs1 =>
                          intro K hK
                          go_simp
                          exact hK
                        refine hon _ _ _ ?As2 (by kernel_rfl) ?Bs2 ?Cs2
                        case Bs2 =>
                          intro K hK
                          go_simp
                          exact hK
                        refine hoff _ _ _ (by kernel_rfl) ?_
                        refine hoff _ _ _ (by kernel_rfl) ?_
                        refine hoff _ _ _ (by kernel_rfl) ?_
                        refine hoff _ _ _ (by kernel_rfl) ?_
                        refine hoff _ _ _ (by kernel_rfl) ?_
                        refine hoff _ _ _ (by kernel_rfl) ?_
                        refine hoff _ _ _ (by kernel_rfl) ?_
                        refine hoff _ _ _ (by kernel_rfl) ?_
                        refine hoff _ _ _ (by kernel_rfl) ?_
                        refine hoff _ _ _ (by kernel_rfl) ?_
                        refine hoff _ _ _ (by kernel_rfl) ?_
                        refine hon _ _ _ ?As3 (by kernel_rfl) ?Bs3 ?Cs3
                        case Bs3 =>
                          intro K hK
                          go_simp
                          exact hK
                        refine hon _ _ _ ?As4 (by kernel_rfl) ?Bs4 ?Cs4
                        case Bs4 =>
                          intro K hK
                          go_simp
                          exact hK
                        refine hend _ ?_
                        clear hon hoff hend Z
                        change Exit.inBlock 3 _ _ _ wr.drew
                        have HKD := Lib.hid HKQ.out.drew
                        generalize wr.drew = wd at *
                        go_wp2_with fail
                        go_roundw
                        case rel => exact ⟨false, q + 1, rfl, by go_num, by omega, ⟨fun h => (by cases h), fun h => absurd h HB3.out⟩, HKD.out⟩
                        case measure => simp [intOf]; omega
                      · by_cases hsame : xn = nm
                        · subst hsame
                          have HB3 : Hid (¬ (BesOk eo ((ents lb).take j) ∧ entOk [(xn, avs)] = true ∧ ∀ x ∈ (ents lb).take (q + 1), x.1 ≠ xn)) := by
                            intro h
                            exact absurd rfl (h.2.2 (xn, xvs) (by rw [HTK.out]; exact List.mem_append.2 (.inr (List.mem_singleton.2 rfl))))
                          go_wp2_with fail
                          go_still (by kernel_rfl)
                          go_wp2_with fail
                          go_roundw
                          case rel => exact ⟨false, q + 1, by simp, by go_num, by omega, ⟨fun h => (by cases h), fun h => absurd h HB3.out⟩, by first | exact HKQ.out | exact HKQ.out.drew⟩
                          case measure => simp [intOf]; omega
                        · have hne : (xn == nm) = false := by simpa using hsame
                          have HB3 : Hid (BesOk eo ((ents lb).take j) ∧ entOk [(nm, avs)] = true ∧ ∀ x ∈ (ents lb).take (q + 1), x.1 ≠ nm) := by
                            obtain ⟨g1, g2, g3⟩ := HB2.out.1 (by first | rfl | trivial)
                            refine ⟨g1, g2, fun x hx => ?_⟩
                            rw [HTK.out] at hx
                            rcases List.mem_append.1 hx with hx | hx
                            · exact g3 x hx
                            · rw [List.mem_singleton.1 hx]; exact hsame
                          clear hsame
                          go_wp2_with fail
                          go_still (by kernel_rfl)
                          go_wp2_with fail
                          go_roundw
                          case rel => exact ⟨true, q + 1, by simp [hne], by go_num, by omega, ⟨fun _ => HB3.out, fun _ => rfl⟩, by first | exact HKQ.out | exact HKQ.out.drew⟩
                          case measure => simp [intOf]; omega
                    · obtain rfl : q = j := by omega
                      have HB4 : Hid (b2 = true ↔ BesOk eo ((ents lb).take (q + 1))) := by
                        show _ ↔ _
                        rw [List.take_add_one, ents_at HU.out]
                        exact HB2.out.trans bes_snoc.symm
                      go_wp2_with fail
                      go_roundw
                      case rel => exact ⟨b2, q + 1, rfl, by go_num, by omega, HB4.out, HKQ.out⟩
                      case measure => simp [intOf]; omega
                · rw [show ents [⟨nm, aA, an, ac, avs⟩] = [(nm, avs)] from rfl] at HRA
                  obtain ⟨ea, hea⟩ : ∃ ea, entOk [(nm, avs)] = ea := ⟨_, rfl⟩
                  have HEE := Lib.hid hea
                  rw [hea] at HRA
                  clear hea
                  go_wp2_with fail
                  refine (HRA.out wr HKR.out).mono ?_
                  rintro e w7 ⟨rfl, hk7⟩
                  have HKV := Lib.hid (HKR.out.trans' hk7)
                  clear hk7 hsl hw1 hjd
                  go_wp2_with fail
                  obtain ⟨V2, hV2⟩ : ∃ V2 : World, V2 = w7 := ⟨_, rfl⟩
                  subst hV2
                  go_loopw [9, 12] (fun a i wr => ∃ (b2 : Bool) (q : Nat), a = .bool b2 ∧ i = .int .i64 (q : Int) ∧ q ≤ j ∧ Hid (b2 = true ↔ (BesOk eo ((ents lb).take j) ∧ entOk [(nm, avs)] = true ∧ ∀ x ∈ (ents lb).take q, x.1 ≠ nm)) ∧ Hid (Keeps [] w1 wr)) (fun _ i _ => j - (intOf i).toNat)
                  case atStart => exact ⟨_, 0, rfl, rfl, Nat.zero_le _, ⟨fun h => ⟨HBJ.out.1 (by first | rfl | trivial), (by rw [HEE.out]; exact h), fun x hx => (by simp at hx)⟩, fun h => (by rw [← HEE.out]; exact h.2.1)⟩, HKV.out⟩
                  case round =>
                    obtain ⟨b2, q, rfl, rfl, hq, HB2, HKQ⟩ := hrel
                    by_cases hltq : q < j
                    · obtain ⟨x, hx⟩ : ∃ x, lb[q]? = some x := ⟨_, List.getElem?_eq_getElem (by have := HEB.out.1; omega)⟩
                      have HXQ := Lib.hid hx
                      have hqi : (q : Int) < (m : Int) := by omega
                      have hq0 : (0 : Int) ≤ (q : Int) := by omega
                      have hji : (j : Int) < (m : Int) := by omega
                      have hj0 : (0 : Int) ≤ (j : Int) := by omega
                      have hqj : (q : Int) < (j : Int) := by omega
                      have HTK : Hid ((ents lb).take (q + 1) = (ents lb).take q ++ [x.att]) := by show _ = _; rw [List.take_add_one, ents_at hx]; rfl
                      obtain ⟨hd0, _⟩ := HCC.out wr HKQ.out q x hx
                      obtain ⟨hd1, _⟩ := HCC.out wr HKQ.out j ⟨nm, aA, an, ac, avs⟩ HU.out
                      obtain ⟨xn, xA, xm, xc, xvs⟩ := x
                      dsimp only at hd0 hd1
                      unfold tv at hd0 hd1
                      clear hx
                      cases b2
                      · have HB3 : Hid (¬ (BesOk eo ((ents lb).take j) ∧ entOk [(nm, avs)] = true ∧ ∀ x ∈ (ents lb).take (q + 1), x.1 ≠ nm)) := by
                          intro h
                          have h9 := HB2.out.2 ⟨h.1, h.2.1, fun x hx => h.2.2 x (by rw [HTK.out]; exact List.mem_append.2 (.inl hx))⟩
                          cases h9
                        go_wp2_with fail
                        refine region_Y (by kernel_rfl) (by kernel_rfl) (fun Z hon hoff hend => ?_)
                        refine hon _ _ _ ?At1 (by kernel_rfl) ?Bt1 ?Ct1
                        case Bt1 =>
                          intro K hK
                          go_simp
                          exact hK
                        refine hon _ _ _ ?At2 (by kernel_rfl) ?Bt2 ?Ct2
                        case Bt2 =>
                          intro K hK
                          go_simp
                          exact hK
                        refine hoff _ _ _ (by kernel_rfl) ?_
                        refine hoff _ _ _ (by kernel_rfl) ?_
                        refine hoff _ _ _ (by kernel_rfl) ?_
                        refine hoff _ _ _ (by kernel_rfl) ?_
                        refine hoff _ _ _ (by kernel_rfl) ?_
                        refine hoff _ _ _ (by kernel_rfl) ?_
                        refine hoff _ _ _ (by kernel_rfl) ?_
                        refine hoff _ _ _ (by kernel_rfl) ?_
                        refine hoff _ _ _ (by kernel_rfl) ?_
                        refine hoff _ _ _ (by kernel_rfl) ?_
                        refine hoff _ _ _ (by kernel_rfl) ?_
                        refine hon _ _ _ ?At3 (by kernel_rfl) ?Bt3 ?Ct3
                        case Bt3 =>
                          intro K hK
                          go_simp
                          exact hK
                        refine hon _ _ _ ?At4 (by kernel_rfl) ?Bt4 ?Ct4
                        case Bt4 =>
                          intro K hK
                          go_simp
                          exact hK
                        refine hend _ ?_
                        clear hon hoff hend Z
                        change Exit.inBlock 3 _ _ _ wr.drew
                        have HKD := Lib.hid HKQ.out.drew
                        generalize wr.drew = wd at *
                        go_wp2_with fail
                        go_roundw
                        case rel => exact ⟨false, q + 1, rfl, by go_num, by omega, ⟨fun h => (by cases h), fun h => absurd h HB3.out⟩, HKD.out⟩
                        case measure => simp [intOf]; omega
                      · by_cases hsame : xn = nm
                        · subst hsame
                          have HB3 : Hid (¬ (BesOk eo ((ents lb).take j) ∧ entOk [(xn, avs)] = true ∧ ∀ x ∈ (ents lb).take (q + 1), x.1 ≠ xn)) := by
                            intro h
                            exact absurd rfl (h.2.2 (xn, xvs) (by rw [HTK.out]; exact List.mem_append.2 (.inr (List.mem_singleton.2 rfl))))
                          go_wp2_with fail
                          go_still (by kernel_rfl)
                          go_wp2_with fail
                          go_roundw
                          case rel => exact ⟨false, q + 1, by simp, by go_num, by omega, ⟨fun h => (by cases h), fun h => absurd h HB3.out⟩, by first | exact HKQ.out | exact HKQ.out.drew⟩
                          case measure => simp [intOf]; omega
                        · have hne : (xn == nm) = false := by simpa using hsame
                          have HB3 : Hid (BesOk eo ((ents lb).take j) ∧ entOk [(nm, avs)] = true ∧ ∀ x ∈ (ents lb).take (q + 1), x.1 ≠ nm) := by
                            obtain ⟨g1, g2, g3⟩ := HB2.out.1 (by first | rfl | trivial)
                            refine ⟨g1, g2, fun x hx => ?_⟩
                            rw [HTK.out] at hx
                            rcases List.mem_append.1 hx with hx | hx
                            · exact g3 x hx
                            · rw [List.mem_singleton.1 hx]; exact hsame
                          clear hsame
                          go_wp2_with fail
                          go_still (by kernel_rfl)
                          go_wp2_with fail
                          go_roundw
                          case rel => exact ⟨true, q + 1, by simp [hne], by go_num, by omega, ⟨fun _ => HB3.out, fun _ => rfl⟩, by first | exact HKQ.out | exact HKQ.out.drew⟩
                          case measure => simp [intOf]; omega
                    · obtain rfl : q = j := by omega
                      have HB4 : Hid (b2 = true ↔ BesOk eo ((ents lb).take (q + 1))) := by
                        show _ ↔ _
                        rw [List.take_add_one, ents_at HU.out]
                        exact HB2.out.trans bes_snoc.symm
                      go_wp2_with fail
                      go_roundw
                      case rel => exact ⟨b2, q + 1, rfl, by go_num, by omega, HB4.out, HKQ.out⟩
                      case measure => simp [intOf]; omega
              · obtain rfl : m = j := by omega
                have HB9 : Hid (b = true ↔ BesOk eo (ents lb)) := by
                  have h9 := HBJ.out
                  rw [List.take_of_length_le (by rw [ents_len, HEB.out.1]; exact Nat.le_refl _)] at h9
                  exact h9
                cases b
                · obtain ⟨rfl, rfl⟩ := HPO2.out.2 (fun h => by have := HB9.out.2 h; cases this)
                  have HKQ := Lib.hid (HKV1.out.trans' HKR.out)
                  clear hlt hj
                  go_wp2_with fail
                  refine (HKN.out _ HKQ.out).mono ?_
                  rintro e w9 ⟨rfl, hk9⟩
                  have HK9 := Lib.hid (HKQ.out.trans' hk9)
                  clear hk9
                  go_wp2_with fail
                  go_ret
                  exact ⟨by first | rfl | simp, HK9.out⟩
                · have HPB0 := Lib.hid (HPO2.out.1 (HB9.out.1 (by first | rfl | trivial)))
                  obtain ⟨hpb, rfl⟩ := HPB0.out
                  have HPB := Lib.hid hpb
                  have HS2 : Hid (SetS V wr A1 m c1 lb (ents lb)) := ⟨HS1.out.says, HS1.out.len, own_keep HS1.out.row HKR.out (fun b hb hm => by cases hm), HS1.out.fits, HS1.out.keep.trans' HKR.out⟩
                  clear hpb HPB0 HPO2 hlt hj HB9 HBJ HKR HS1 HKV1
                  go_wp2_with fail
                  go_loopw [10, 13] (fun al i wr => ∃ (A1 : Option Addr) (n1 c1 : Nat) (L1 : List At7) (j : Nat), al = .slice A1 n1 c1 ∧ i = .int .i64 (j : Int) ∧ j ≤ n ∧ n1 ≤ m + j ∧ Hid (SetS V wr A1 n1 c1 L1 (ents lb ++ ((ents lo).take j).filter (stayA (ents lb))))) (fun _ i _ => n - (intOf i).toNat)
                  case atStart => exact ⟨A1, m, c1, lb, 0, rfl, rfl, Nat.zero_le _, by omega, (by show SetS _ _ _ _ _ _ _; simpa using HS2.out)⟩
                  case round =>
                    obtain ⟨A3, n3, c3, L3, j, rfl, rfl, hj, hn3, HS3⟩ := hrel
                    have HKQ := Lib.hid (HKW.out.trans' HS3.out.keep)
                    by_cases hlt : j < n
                    · obtain ⟨a, hu⟩ : ∃ a, lo[j]? = some a := ⟨_, List.getElem?_eq_getElem (by have := HEA.out.1; omega)⟩
                      have HU := Lib.hid hu
                      have HFA := Lib.hid (HEA.out.2.1 a (List.mem_of_getElem? hu))
                      obtain ⟨ba, oa, hAA, hca⟩ := (EntIn.grow HKQ.out HEA.out).2.2 (by omega)
                      subst hAA
                      obtain ⟨hd0, hd1⟩ := hca j a hu
                      have hjn : (j : Int) < (n : Int) := by omega
                      have hj0 : (0 : Int) ≤ (j : Int) := by omega
                      have HGE := Lib.hid (rget_is B m d lb a.name wr (EntIn.grow HKQ.out HEB.out) (by omega) HFA.out.1)
                      have HTK : Hid ((ents lo).take (j + 1) = (ents lo).take j ++ [a.att]) := by show _ = _; rw [List.take_add_one, ents_at hu]; rfl
                      obtain ⟨nm, aA, an, ac, avs⟩ := a
                      dsimp only at hd0 hd1 HGE
                      obtain ⟨X9, hX9⟩ : ∃ X9, cont2 (ents lb) (smallL nm) = X9 := ⟨_, rfl⟩
                      have HX9 := Lib.hid hX9
                      rw [hX9] at HGE
                      unfold tv at hd0 HGE
                      clear hu hX9 hca
                      go_wp2_with fail
                      refine HGE.out.mono ?_
                      rintro e w5 ⟨GA, GC, rfl, _, _, _, hk5⟩
                      have HK5 := Lib.hid hk5
                      have HKQ5 := Lib.hid (HKQ.out.trans' hk5)
                      have hd0' := (hk5.cell (lt_of_cell hd0) (by simp)).trans hd0
                      have hd1' := (hk5.cell (lt_of_cell hd1) (by simp)).trans hd1
                      clear hd0 hd1 hk5 HGE
                      by_cases hz : X9.length = 0
                      · have HX0 : Hid (X9.length = 0) := hz
                        have HFI : Hid (((ents lo).take (j + 1)).filter (stayA (ents lb)) = ((ents lo).take j).filter (stayA (ents lb)) ++ [(nm, avs)]) := by
                          show _ = _
                          rw [HTK.out, List.filter_append]
                          have : stayA (ents lb) (nm, avs) = true := by unfold stayA; dsimp only; rw [HX9.out, hz]; rfl
                          show _ ++ List.filter _ [(nm, avs)] = _
                          simp [this]
                        have HROW := Lib.hid (own_keep (own_keep HS3.out.row HK5.out (fun b hb hm => by cases hm)) ((Keeps.refl [] w5).alloc (.cells #[.string ⟨nm.toArray⟩, .slice aA an ac] 55)) (fun b hb hm => by cases hm))
                        have HSZ : Hid (V.heap.size ≤ (w5.alloc (.cells #[.string ⟨nm.toArray⟩, .slice aA an ac] 55)).heap.size) := by show _ ≤ _; have h9 := HS3.out.keep.size; have h8 := HK5.out.size; simp; omega
                        have HFV : Hid (At7.fits V ⟨nm, aA, an, ac, avs⟩) := HFA.out.grow HKW.out
                        clear hz
                        rw [show X9.length = 0 from HX0.out]
                        go_wp2_with (at_builtin; refine wpList_append_opt rfl (.tmp 108) (.tmp 113) 27 rfl V.heap.size 55 iu _ 2 40 Tryz.underlying27 hiu hzu0 hzu1 hzu2 rfl (by decide) (.slice A3 n3 c3) n3 (atCells L3) rfl HROW.out (some ⟨w5.heap.size, 0, none⟩) 1 1 [tv nm, .slice aA an ac] rfl rfl (src_at7 w5 ⟨nm, aA, an, ac, avs⟩ _) (by intro u hu; simp at hu; rcases hu with rfl | rfl <;> rfl) (by unfold maxLen; omega) (by omega) HSZ.out ?_; intro v6 w6 ho6 hg6 hs6; obtain ⟨A6, c6, hv6⟩ := own_slice ho6; subst hv6; have HS6 := Lib.hid (HS3.out.snoc ⟨nm, aA, an, ac, avs⟩ (HK5.out.trans' ((Keeps.refl [] w5).alloc _)) hg6 ho6 HFV.out); clear ho6 hg6 hs6)
                        have HS7 : Hid (SetS V w6 A6 (n3 + 1) c6 (L3 ++ [⟨nm, aA, an, ac, avs⟩]) (ents lb ++ ((ents lo).take (j + 1)).filter (stayA (ents lb)))) := by
                          rw [HFI.out, ← List.append_assoc]
                          exact HS6.out
                        go_roundw
                        case rel => exact ⟨A6, n3 + 1, c6, _, j + 1, rfl, by go_num, by omega, by omega, HS7.out⟩
                        case measure => simp [intOf]; omega
                      · have hz2 : ((X9.length : Int) == 0) = false := by simp; intro h; exact hz (by rw [h]; rfl)
                        have hz3 : ¬ (X9.length : Int) = 0 := by omega
                        have HFI : Hid (((ents lo).take (j + 1)).filter (stayA (ents lb)) = ((ents lo).take j).filter (stayA (ents lb))) := by
                          show _ = _
                          rw [HTK.out, List.filter_append]
                          have : stayA (ents lb) (nm, avs) = false := by unfold stayA; dsimp only; rw [HX9.out]; simp; intro h; exact hz (by rw [h]; rfl)
                          show _ ++ List.filter _ [(nm, avs)] = _
                          simp [this]
                        obtain ⟨xl, hxl⟩ : ∃ z : Nat, X9.length = z := ⟨_, rfl⟩
                        rw [hxl] at hz2 hz3 ⊢
                        have HS7 : Hid (SetS V w5 A3 n3 c3 L3 (ents lb ++ ((ents lo).take (j + 1)).filter (stayA (ents lb)))) := by
                          rw [HFI.out]
                          exact ⟨HS3.out.says, HS3.out.len, own_keep HS3.out.row HK5.out (fun b hb hm => by cases hm), HS3.out.fits, HS3.out.keep.trans' HK5.out⟩
                        clear hz hxl
                        go_wp2_with fail
                        go_roundw
                        case rel => exact ⟨A3, n3, c3, L3, j + 1, rfl, by go_num, by omega, by omega, HS7.out⟩
                        case measure => simp [intOf]; omega
                    · obtain rfl : n = j := by omega
                      have HL3 : Hid (ents L3 = ents lb ++ (ents lo).filter (stayA (ents lb))) := by
                        have h9 := HS3.out.says
                        rw [List.take_of_length_le (by rw [ents_len, HEA.out.1]; exact Nat.le_refl _)] at h9
                        exact h9
                      have HRX := Lib.hid (HRM.out HRF.out A3 n3 c3 L3 wr HKQ.out (EntIn.of_own HS3.out.row HS3.out.len (fun a ha => (HS3.out.fits a ha).grow HS3.out.keep)) (by omega))
                      rw [HL3.out, ← mean_more] at HRX
                      generalize meanF (ents lo) (ents lb) (lowF t) = Q at HRX HPB
                      obtain rfl := HPB.out
                      obtain ⟨⟨y0, y1, y2, y3⟩, _⟩ := four_facts8 (blk_keep HBW.out HS3.out.keep (by simp))
                      clear hn3
                      go_wp2_with fail
                      refine HRX.out.mono ?_
                      rintro e w6 ⟨rfl, hk6⟩
                      have HK6 := Lib.hid (HKQ.out.trans' hk6)
                      clear hk6 y0 y1 y2 y3
                      go_wp2_with fail
                      refine (HKN.out _ HK6.out).mono ?_
                      rintro e w9 ⟨rfl, hk9⟩
                      have HK9 := Lib.hid (HK6.out.trans' hk9)
                      clear hk9
                      go_wp2_with fail
                      go_ret
                      exact ⟨by first | rfl | simp, HK9.out⟩
end Go.Proofs.YtoggddoeanfjeaaGreatDoor
