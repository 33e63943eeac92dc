/- Texts of one proof, laid together: F36 F37 F38. -/
import Derived.Test.YtoggddoeanfjeaaGreatDoorMC3
import Derived.BigQuiet
import Derived.Test.YtoggddoeanfjeaaGreatDoorMB4
import Derived.Test.YtoggddoeanfjeaaGreatDoorMB3
/- filter: what a filter has but those in its Of, read off a text; walked. -/
namespace Go.Proofs.YtoggddoeanfjeaaGreatDoor
open Go.RowKit Go.Shelf
set_option linter.unusedVariables false
set_option linter.unusedSimpArgs false
set_option maxRecDepth 100000

/-- What head takes off: the kind, the name, the Value, what is left. -/
def headP (T : Txt) : Option (Int × Txt × Txt × Txt) :=
  if begP [38] T = true then some (1, [], [], T.drop 1) else if begP [124] T = true then some (2, [], [], T.drop 1) else if begP [33] T = true then some (3, [], [], T.drop 1) else
  match untP [61] T with
  | none => none
  | some n => match untP [40, 41, 42] ((T.drop n).drop 1) with
    | none => none
    | some m => match plnV (((T.drop n).drop 1).take m).length (((T.drop n).drop 1).take m) with
      | none => none
      | some v => some (if begP [42] (((T.drop n).drop 1).drop m) = true then (if v = [] then 6 else 5) else 4, T.take n, v, behP [42] (((T.drop n).drop 1).drop m))
def HeaQ (g : Nat) (T : Txt) (w : World) (e : Ending) (w' : World) : Prop :=
  (∀ k s v R, headP T = some (k, s, v, R) → e = .returned (FH.val ⟨k, none, 0, 0, s, v⟩) ∧ RstAt w' g R) ∧ (headP T = none → e = gaveUp8 180) ∧ Keeps [g] w w'
theorem SgnAt.keep8 {w X : World} {g : Nat} (h : SgnAt w) (hk : Keeps [g] w X) (hg : 0 ≠ g) : SgnAt X :=
  ⟨(hk.cell (lt_of_cell h.1) (by simpa using hg)).trans h.1, (hk.cell (lt_of_cell h.2.1) (by simpa using hg)).trans h.2.1, (hk.cell (lt_of_cell h.2.2) (by simpa using hg)).trans h.2.2⟩
theorem head_sign {T : Txt} {k : Nat} (h1 : 1 ≤ k) (h3 : k ≤ 3) (hn : ∀ j : Nat, 1 ≤ j → j < k → begP (sgnT j) T = false) (hy : begP (sgnT k) T = true) : headP T = some ((k : Int), [], [], T.drop 1) := by
  rcases (by omega : k = 1 ∨ k = 2 ∨ k = 3) with rfl | rfl | rfl
  · have h9 : begP [38] T = true := hy
    unfold headP
    rw [if_pos h9]; rfl
  · have h9 : begP [124] T = true := hy
    have h8 : begP [38] T = false := hn 1 (by omega) (by omega)
    unfold headP
    rw [if_neg (by rw [h8]; simp), if_pos h9]; rfl
  · have h9 : begP [33] T = true := hy
    have h8 : begP [38] T = false := hn 1 (by omega) (by omega)
    have h7 : begP [124] T = false := hn 2 (by omega) (by omega)
    unfold headP
    rw [if_neg (by rw [h8]; simp), if_neg (by rw [h7]; simp), if_pos h9]; rfl
theorem untP_one : ∀ (T : Txt) (n : Nat), untP [61] T = some n → begP [61] (T.drop n) = true
  | [], n, h => by cases h
  | b :: l, n, h => by
    unfold untP at h
    split at h
    · rename_i hc
      cases h
      have hb : b = 61 := by simpa using hc
      subst hb
      rfl
    · obtain ⟨m, hm, rfl⟩ := Option.map_eq_some_iff.1 h
      exact untP_one l m hm
theorem headP_not {T : Txt} (h1 : begP [38] T = false) (h2 : begP [124] T = false) (h3 : begP [33] T = false) : headP T = match untP [61] T with
  | none => none
  | some n => match untP [40, 41, 42] ((T.drop n).drop 1) with
    | none => none
    | some m => match plnV (((T.drop n).drop 1).take m).length (((T.drop n).drop 1).take m) with
      | none => none
      | some v => some (if begP [42] (((T.drop n).drop 1).drop m) = true then (if v = [] then 6 else 5) else 4, T.take n, v, behP [42] (((T.drop n).drop 1).drop m)) := by
  unfold headP
  rw [if_neg (by rw [h1]; simp), if_neg (by rw [h2]; simp), if_neg (by rw [h3]; simp)]
theorem sgn_more {T : Txt} {k : Nat} (hn : ∀ j : Nat, 1 ≤ j → j < k → begP (sgnT j) T = false) (hy : begP (sgnT k) T = false) : ∀ j : Nat, 1 ≤ j → j < k + 1 → begP (sgnT j) T = false := fun j h1 h2 => by
  by_cases hj : j < k
  · exact hn j h1 hj
  · obtain rfl : j = k := by omega
    exact hy
set_option maxHeartbeats 8000000 in
theorem head8_is (g : Nat) (T : Txt) (w : World) (h : RstAt w g T) (hT : T.length ≤ 1000000000) (hG : SgnAt w) (hs : SynAt w) (hg : 0 ≠ g) (hsg : 3 ≠ g) :
    Calls Tryz.prog 66 #[.pointer (some ⟨g, 0, none⟩)] w fun e w' => HeaQ g T w e w' := by
  have hgl := h.lt
  have HB0 := Lib.hid (heap_new8 w (.cells #[.int .i64 0, .slice none 0 0, .string ⟨#[]⟩, .string ⟨#[]⟩] 25))
  have hk0 : Keeps [] w (w.alloc (.cells #[.int .i64 0, .slice none 0 0, .string ⟨#[]⟩, .string ⟨#[]⟩] 25)) := (Keeps.refl [] w).alloc _
  obtain ⟨W1, hW1⟩ : ∃ W1, w.alloc (.cells #[.int .i64 0, .slice none 0 0, .string ⟨#[]⟩, .string ⟨#[]⟩] 25) = W1 := ⟨_, rfl⟩
  obtain ⟨R, hR⟩ : ∃ R, w.heap.size = R := ⟨_, rfl⟩
  rw [hW1, hR] at HB0
  rw [hW1] at hk0
  have HR := Lib.hid hR
  have HW1 := Lib.hid hW1
  have HGR : Hid (R ≠ g) := by show R ≠ g; omega
  have HK0 := Lib.hid hk0
  have HG : Hid (∀ X, Keeps [g] W1 X → SgnAt X) := fun X hX => (hG.keep hk0).keep8 hX hg
  have HS : Hid (∀ X, Keeps [g] W1 X → SynAt X) := fun X hX => (hs.keep hk0 (by simp)).keep hX (by simpa using hsg)
  have HB : Hid (RstAt W1 g T) := h.keep hk0 (by simp)
  have HT := Lib.hid hT
  have HH := Lib.hid (fun (p : Txt) (hp : p.length ≤ 1) X (hX : RstAt X g T) => has8_is g T p X hX hT (by omega))
  have HEND : Hid (∀ X Y, Keeps [g] W1 X → Keeps [R] X Y → Keeps [g] w Y) := fun X Y h1 h2 => ((hk0.mono (by simp)).trans h1 (fun x hx => .inl hx)).trans h2 (fun x hx => .inr (by simp at hx; subst hx; omega))
  have HCELL : Hid (∀ X, Keeps [g] W1 X → X.heap[R]? = some (.cells #[.int .i64 0, .slice none 0 0, .string ⟨#[]⟩, .string ⟨#[]⟩] 25 (0, 0))) := fun X hX => blk_keep HB0.out hX (by simpa using HGR.out)
  clear h hT hG hs hg hsg hW1 hk0
  go_enter Tryz.func66, Tryz.ntmps66
  go_wp2_with fail
  rw [HW1.out]
  try simp only [hR]
  clear hR
  go_loopw [3] (fun kd wr => ∃ k : Nat, kd = .int .i64 (k : Int) ∧ 1 ≤ k ∧ k ≤ 4 ∧ Hid (∀ j : Nat, 1 ≤ j → j < k → begP (sgnT j) T = false) ∧ Hid (RstAt wr g T) ∧ Hid (Keeps [g] W1 wr)) (fun kd _ => 4 - (intOf kd).toNat)
  case atStart => exact ⟨1, rfl, by omega, by omega, fun j h1 h2 => by omega, HB.out, Keeps.refl _ _⟩
  case round =>
    obtain ⟨k, rfl, hk1, hk4, HNO, HX, HK⟩ := hrel
    by_cases h4 : k = 4
    · subst h4
      have HHD := Lib.hid (headP_not (T := T) (HNO.out 1 (by omega) (by omega)) (HNO.out 2 (by omega) (by omega)) (HNO.out 3 (by omega) (by omega)))
      have HBAD : Hid (∀ X, Keeps [g] W1 X → headP T = none → HeaQ g T w (gaveUp8 180) X) := fun X hX h9 => ⟨fun k s v R h8 => (by rw [h9] at h8; cases h8), fun _ => rfl, HEND.out X X hX (Keeps.refl _ _)⟩
      have HRU := Lib.hid (untP_index [61] T)
      cases hn : untP [61] T with
      | none =>
        rw [hn] at HRU HHD
        have HI := Lib.hid (fun W => by have h9 := iany_one T W; rw [HRU.out] at h9; exact h9)
        have HU := Lib.hid (until8_no g T ⟨#[61]⟩ wr HX.out HI.out)
        have HR9 := Lib.hid (fun X hX => HBAD.out X hX HHD.out)
        clear hn
        go_wp2_with fail
        refine HU.out.mono ?_
        rintro e w1 ⟨rfl, hk⟩
        have HR8 := Lib.hid (HR9.out w1 (HK.out.trans hk (fun x hx => .inl hx)))
        clear hk
        go_wp2_with fail
        exact ⟨rfl, HR8.out⟩
      | some n =>
        have hnl := untP_le _ _ _ hn
        have hb := untP_one _ _ hn
        rw [hn] at HRU HHD
        have HI := Lib.hid (fun W => by have h9 := iany_one T W; rw [HRU.out] at h9; exact h9)
        have HU := Lib.hid (until8_yes g T ⟨#[61]⟩ n wr HX.out (by omega) HI.out)
        have HTK := Lib.hid (fun X (hX : RstAt X g (T.drop n)) => take8_yes g (T.drop n) [61] X hX (by have := HT.out; rw [List.length_drop]; omega) (by decide) hb)
        obtain ⟨U, hU⟩ : ∃ U, (T.drop n).drop 1 = U := ⟨_, rfl⟩
        have HUL : Hid (U.length ≤ 1000000000) := by have := HT.out; show _ ≤ _; rw [← hU, List.length_drop, List.length_drop]; omega
        rw [show ([61] : Txt).length = 1 from rfl] at HTK
        rw [hU] at HTK
        dsimp only at HHD
        rw [hU] at HHD
        clear hn hnl hb hU
        obtain ⟨x, hx⟩ : ∃ x, T.take n = x := ⟨_, rfl⟩
        rw [hx] at HU HHD
        clear hx
        generalize T.drop n = T2 at HU HTK
        have HRU2 := Lib.hid (untP_index [40, 41, 42] U)
        unfold tv at HU HTK
        go_wp2_with fail
        refine HU.out.mono ?_
        rintro e w1 ⟨rfl, hr1, hk1⟩
        have HX1 := Lib.hid hr1
        have HK1 : Hid (Keeps [g] W1 w1) := HK.out.trans hk1 (fun x hx => .inl hx)
        clear hr1 hk1
        obtain ⟨F, hF⟩ : ∃ F, w1.heap.size = F := ⟨_, rfl⟩
        have HF0 := Lib.hid (heap_new8 w1 (.cells #[.int .i64 4, .slice none 0 0, .string ⟨x.toArray⟩, .string ⟨#[]⟩] 25))
        have HKF : Hid (Keeps [] w1 (w1.alloc (.cells #[.int .i64 4, .slice none 0 0, .string ⟨x.toArray⟩, .string ⟨#[]⟩] 25))) := (Keeps.refl [] w1).alloc _
        have HFL : Hid (W1.heap.size ≤ F ∧ g < F ∧ R < F) := by
          have e1 := HK1.out.size
          have e2 := lt_of_heap HB0.out
          have e3 := HX1.out.lt
          exact ⟨by omega, by omega, by omega⟩
        rw [hF] at HF0
        go_wp2_with fail
        try simp only [hF]
        clear hF
        generalize w1.alloc (.cells #[.int .i64 4, .slice none 0 0, .string ⟨x.toArray⟩, .string ⟨#[]⟩] 25) = w1a at HF0 HKF ⊢
        refine (HTK.out w1a (HX1.out.keep HKF.out (by simp))).mono ?_
        rintro e w2 ⟨rfl, hr2, hk2⟩
        have HX2 := Lib.hid hr2
        have HK2 : Hid (Keeps [g] W1 w2) := (HK1.out.trans HKF.out (fun x hx => by cases hx)).trans hk2 (fun x hx => .inl hx)
        have HF2 := Lib.hid (blk_keep HF0.out hk2 (by have := HFL.out; simp; omega))
        clear hr2 hk2
        cases hm : untP [40, 41, 42] U with
        | none =>
          rw [hm] at HRU2 HHD
          have HI2 := Lib.hid (fun W => by have h9 := iany_is U W HUL.out; rw [HRU2.out] at h9; exact h9)
          have HU2 := Lib.hid (until8_no g U ⟨#[40, 41, 42]⟩ w2 HX2.out HI2.out)
          have HR9 := Lib.hid (fun X hX => HBAD.out X hX HHD.out)
          clear hm
          go_wp2_with fail
          refine HU2.out.mono ?_
          rintro e w3 ⟨rfl, hk⟩
          have HR8 := Lib.hid (HR9.out w3 (HK2.out.trans hk (fun x hx => .inl hx)))
          clear hk
          go_wp2_with fail
          exact ⟨rfl, HR8.out⟩
        | some m =>
          have hml := untP_le _ _ _ hm
          rw [hm] at HRU2 HHD
          have HI2 := Lib.hid (fun W => by have h9 := iany_is U W HUL.out; rw [HRU2.out] at h9; exact h9)
          have HU2 := Lib.hid (until8_yes g U ⟨#[40, 41, 42]⟩ m w2 HX2.out (by omega) HI2.out)
          have HPV := Lib.hid (fun X (hX : Keeps [g] W1 X) => plainvalue_is (U.take m) X (by have := HUL.out; rw [List.length_take]; omega) (HS.out X hX))
          dsimp only at HHD
          have HVL : Hid ((U.drop m).length ≤ 1000000000) := by have := HUL.out; show _ ≤ _; rw [List.length_drop]; omega
          unfold PlvQ at HPV
          clear hm hml
          generalize U.take m = V at HU2 HPV HHD
          generalize U.drop m = Z at HU2 HVL HHD
          obtain ⟨pv, hpv⟩ : ∃ pv, plnV V.length V = pv := ⟨_, rfl⟩
          rw [hpv] at HPV HHD
          clear hpv
          unfold tv at HU2 HPV
          go_wp2_with fail
          refine HU2.out.mono ?_
          rintro e w3 ⟨rfl, hr3, hk3⟩
          have HX3 := Lib.hid hr3
          have HK3 : Hid (Keeps [g] W1 w3) := HK2.out.trans hk3 (fun x hx => .inl hx)
          have HF3 := Lib.hid (blk_keep HF2.out hk3 (by have := HFL.out; simp; omega))
          clear hr3 hk3
          go_wp2_with fail
          refine (HPV.out w3 HK3.out).mono ?_
          rintro e w4 ⟨hp1, hp2, hk4⟩
          have HX4 := Lib.hid (HX3.out.keep hk4 (by simp))
          have HK4 : Hid (Keeps [g] W1 w4) := HK3.out.trans hk4 (fun x hx => by cases hx)
          have HF4 := Lib.hid (blk_keep HF3.out hk4 (by simp))
          clear hk4
          cases pv with
          | none =>
            obtain rfl := hp2 rfl
            have HR8 := Lib.hid (HBAD.out w4 HK4.out HHD.out)
            clear hp1 hp2
            go_wp2_with fail
            exact ⟨rfl, HR8.out⟩
          | some v =>
            obtain rfl := hp1 v rfl
            clear hp1 hp2
            dsimp only at HHD
            have HF5 := Lib.hid (heap_setCell_same w4 F 3 _ _ (.string ⟨v.toArray⟩) HF4.out)
            have HX5 : Hid (RstAt (w4.setCell ⟨F, 3, none⟩ (.string ⟨v.toArray⟩)) g Z) := HX4.out.keep (bs := [F]) ((Keeps.refl [F] w4).setCell (.inl (by simp)) _) (by have := HFL.out; simp; omega)
            have HK5 : Hid (Keeps [g] W1 (w4.setCell ⟨F, 3, none⟩ (.string ⟨v.toArray⟩))) := HK4.out.setCell (.inr HFL.out.1) _
            have HH2 := Lib.hid (fun X (hX : RstAt X g Z) => has8_is g Z [42] X hX HVL.out (by decide))
            obtain ⟨q, hq⟩ : ∃ q, begP [42] Z = q := ⟨_, rfl⟩
            rw [hq] at HH2 HHD
            clear hq
            obtain ⟨Z2, hZ2⟩ : ∃ Z2, behP [42] Z = Z2 := ⟨_, rfl⟩
            rw [hZ2] at HH2 HHD
            clear hZ2
            unfold tv at HH2
            obtain ⟨⟨q0, q1, q2, q3⟩, y0, y1, y2, y3⟩ := four_facts8 HF4.out
            go_wp2_with fail
            generalize w4.setCell ⟨F, 3, none⟩ (.string ⟨v.toArray⟩) = w5 at HF5 HX5 HK5 ⊢
            refine (HH2.out w5 HX5.out).mono ?_
            rintro e w6 ⟨rfl, hr6, hk6⟩
            have HX6 := Lib.hid hr6
            have HK6 : Hid (Keeps [g] W1 w6) := HK5.out.trans hk6 (fun x hx => .inl hx)
            have HF6 := Lib.hid (blk_keep HF5.out hk6 (by have := HFL.out; simp; omega))
            clear hr6 hk6 q0 q1 q2 q3 y0 y1 y2 y3
            cases q
            · have HCR := Lib.hid (HCELL.out w6 HK6.out)
              have HHP : Hid (headP T = some (4, x, v, Z2)) := HHD.out
              have HKZ := HK6
              have HXZ := HX6
              obtain ⟨⟨q0, q1, q2, q3⟩, y0, y1, y2, y3⟩ := four_facts8 HF6.out
              obtain ⟨⟨r0, r1, r2, r3⟩, s0, s1, s2, s3⟩ := four_facts8 HCR.out
              go_wp2_with fail
              have HR6 := heap_setCell_same _ R 0 _ _ (.int .i64 4) HCR.out
              have HR7 := heap_setCell_same _ R 1 _ _ (.slice none 0 0) HR6
              have HR8 := heap_setCell_same _ R 2 _ _ (.string ⟨x.toArray⟩) HR7
              have HR9 := heap_setCell_same _ R 3 _ _ (.string ⟨v.toArray⟩) HR8
              refine bodyPost_ret (results_cell_row rfl _ _ R _ #[.int .i64 4, .slice none 0 0, .string ⟨x.toArray⟩, .string ⟨v.toArray⟩] (0, 0) _ rfl HR9 Tryz.underlying25 rfl (by kernel_rfl)) rfl ?_
              have k9 : Keeps [R] (w6) _ := ((((Keeps.refl [R] (w6)).setCell (.inl (by simp)) (.int .i64 4) (p := ⟨R, 0, none⟩)).setCell (.inl (by simp)) (.slice none 0 0) (p := ⟨R, 1, none⟩)).setCell (.inl (by simp)) (.string ⟨x.toArray⟩) (p := ⟨R, 2, none⟩)).setCell (.inl (by simp)) (.string ⟨v.toArray⟩) (p := ⟨R, 3, none⟩)
              refine ⟨fun k s v' R' h9 => ?_, fun h9 => (by rw [HHP.out] at h9; cases h9), HEND.out _ _ HKZ.out k9⟩
              rw [HHP.out] at h9
              cases h9
              exact ⟨rfl, HXZ.out.keep k9 (by simpa using HGR.out.symm)⟩
            · have HF7 := Lib.hid (heap_setCell_same w6 F 0 _ _ (.int .i64 5) HF6.out)
              have HX7 : Hid (RstAt (w6.setCell ⟨F, 0, none⟩ (.int .i64 5)) g Z2) := HX6.out.keep (bs := [F]) ((Keeps.refl [F] w6).setCell (.inl (by simp)) _) (by have := HFL.out; simp; omega)
              have HK7 : Hid (Keeps [g] W1 (w6.setCell ⟨F, 0, none⟩ (.int .i64 5))) := HK6.out.setCell (.inr HFL.out.1) _
              obtain ⟨⟨q0, q1, q2, q3⟩, y0, y1, y2, y3⟩ := four_facts8 HF6.out
              obtain ⟨⟨u0, u1, u2, u3⟩, v0, v1, v2, v3⟩ := four_facts8 HF7.out
              have HCR7 := Lib.hid (HCELL.out _ HK7.out)
              obtain ⟨⟨r0, r1, r2, r3⟩, s0, s1, s2, s3⟩ := four_facts8 HCR7.out
              cases v with
              | nil =>
                have HF8 := Lib.hid (heap_setCell_same _ F 0 _ _ (.int .i64 6) HF7.out)
                have HX8 : Hid (RstAt ((w6.setCell ⟨F, 0, none⟩ (.int .i64 5)).setCell ⟨F, 0, none⟩ (.int .i64 6)) g Z2) := HX7.out.keep (bs := [F]) ((Keeps.refl [F] _).setCell (.inl (by simp)) _) (by have := HFL.out; simp; omega)
                have HK8 : Hid (Keeps [g] W1 ((w6.setCell ⟨F, 0, none⟩ (.int .i64 5)).setCell ⟨F, 0, none⟩ (.int .i64 6))) := HK7.out.setCell (.inr HFL.out.1) _
                obtain ⟨⟨a0, a1, a2, a3⟩, b0, b1, b2, b3⟩ := four_facts8 HF8.out
                have HCR := Lib.hid (HCELL.out _ HK8.out)
                obtain ⟨⟨e0, e1, e2, e3⟩, f0, f1, f2, f3⟩ := four_facts8 HCR.out
                have HHP : Hid (headP T = some (6, x, [], Z2)) := HHD.out
                have HKZ := HK8
                have HXZ := HX8
                go_wp2_with fail
                have HR6 := heap_setCell_same _ R 0 _ _ (.int .i64 6) HCR.out
                have HR7 := heap_setCell_same _ R 1 _ _ (.slice none 0 0) HR6
                have HR8 := heap_setCell_same _ R 2 _ _ (.string ⟨x.toArray⟩) HR7
                have HR9 := heap_setCell_same _ R 3 _ _ (.string ⟨([] : Txt).toArray⟩) HR8
                refine bodyPost_ret (results_cell_row rfl _ _ R _ #[.int .i64 6, .slice none 0 0, .string ⟨x.toArray⟩, .string ⟨([] : Txt).toArray⟩] (0, 0) _ rfl HR9 Tryz.underlying25 rfl (by kernel_rfl)) rfl ?_
                have k9 : Keeps [R] ((w6.setCell ⟨F, 0, none⟩ (.int .i64 5)).setCell ⟨F, 0, none⟩ (.int .i64 6)) _ := ((((Keeps.refl [R] ((w6.setCell ⟨F, 0, none⟩ (.int .i64 5)).setCell ⟨F, 0, none⟩ (.int .i64 6))).setCell (.inl (by simp)) (.int .i64 6) (p := ⟨R, 0, none⟩)).setCell (.inl (by simp)) (.slice none 0 0) (p := ⟨R, 1, none⟩)).setCell (.inl (by simp)) (.string ⟨x.toArray⟩) (p := ⟨R, 2, none⟩)).setCell (.inl (by simp)) (.string ⟨([] : Txt).toArray⟩) (p := ⟨R, 3, none⟩)
                refine ⟨fun k s v' R' h9 => ?_, fun h9 => (by rw [HHP.out] at h9; cases h9), HEND.out _ _ HKZ.out k9⟩
                rw [HHP.out] at h9
                cases h9
                exact ⟨rfl, HXZ.out.keep k9 (by simpa using HGR.out.symm)⟩
              | cons c cs =>
                have HCR := HCR7
                have HHP : Hid (headP T = some (5, x, c :: cs, Z2)) := HHD.out
                have HKZ := HK7
                have HXZ := HX7
                go_wp2_with fail
                have HR6 := heap_setCell_same _ R 0 _ _ (.int .i64 5) HCR.out
                have HR7 := heap_setCell_same _ R 1 _ _ (.slice none 0 0) HR6
                have HR8 := heap_setCell_same _ R 2 _ _ (.string ⟨x.toArray⟩) HR7
                have HR9 := heap_setCell_same _ R 3 _ _ (.string ⟨(c :: cs).toArray⟩) HR8
                refine bodyPost_ret (results_cell_row rfl _ _ R _ #[.int .i64 5, .slice none 0 0, .string ⟨x.toArray⟩, .string ⟨(c :: cs).toArray⟩] (0, 0) _ rfl HR9 Tryz.underlying25 rfl (by kernel_rfl)) rfl ?_
                have k9 : Keeps [R] (w6.setCell ⟨F, 0, none⟩ (.int .i64 5)) _ := ((((Keeps.refl [R] (w6.setCell ⟨F, 0, none⟩ (.int .i64 5))).setCell (.inl (by simp)) (.int .i64 5) (p := ⟨R, 0, none⟩)).setCell (.inl (by simp)) (.slice none 0 0) (p := ⟨R, 1, none⟩)).setCell (.inl (by simp)) (.string ⟨x.toArray⟩) (p := ⟨R, 2, none⟩)).setCell (.inl (by simp)) (.string ⟨(c :: cs).toArray⟩) (p := ⟨R, 3, none⟩)
                refine ⟨fun k s v' R' h9 => ?_, fun h9 => (by rw [HHP.out] at h9; cases h9), HEND.out _ _ HKZ.out k9⟩
                rw [HHP.out] at h9
                cases h9
                exact ⟨rfl, HXZ.out.keep k9 (by simpa using HGR.out.symm)⟩
    · obtain ⟨g1, g2, g3⟩ := HG.out wr HK.out
      rcases (by omega : k = 1 ∨ k = 2 ∨ k = 3) with rfl | rfl | rfl
      · have HC := Lib.hid (HH.out [38] (by decide) wr HX.out)
        have HSG := Lib.hid (fun (hy : begP [38] T = true) => head_sign (T := T) (k := 1) (by omega) (by omega) HNO.out hy)
        have HN2 := Lib.hid (fun (hy : begP [38] T = false) => sgn_more (T := T) (k := 1) HNO.out hy)
        obtain ⟨q, hq⟩ : ∃ q, begP [38] T = q := ⟨_, rfl⟩
        have HQ := Lib.hid hq
        rw [hq] at HC HSG HN2
        unfold tv at HC
        clear hq
        go_wp2_with fail
        refine HC.out.mono ?_
        rintro e w1 ⟨rfl, hr1, hk5⟩
        have HK1 : Hid (Keeps [g] W1 w1) := HK.out.trans hk5 (fun x hx => .inl hx)
        clear hk5
        cases q
        · rw [behP_no HQ.out] at hr1
          have HX1 := Lib.hid hr1
          clear hr1
          go_wp2_with fail
          go_roundw
          case rel => exact ⟨2, by rfl, by omega, by omega, HN2.out (by first | exact trivial | rfl), HX1.out, HK1.out⟩
          case measure => decide
        · rw [behP_yes HQ.out] at hr1
          have HX1 := Lib.hid hr1
          have HHP := Lib.hid (HSG.out (by first | exact trivial | rfl))
          clear hr1
          have HC0 := Lib.hid (HCELL.out w1 HK1.out)
          obtain ⟨⟨r0, r1, r2, r3⟩, s0, s1, s2, s3⟩ := four_facts8 HC0.out
          go_wp2_with fail
          have HR6 := heap_setCell_same _ R 0 _ _ (.int .i64 1) HC0.out
          have HR7 := heap_setCell_same _ R 1 _ _ (.slice none 0 0) HR6
          have HR8 := heap_setCell_same _ R 2 _ _ (.string ⟨#[]⟩) HR7
          have HR9 := heap_setCell_same _ R 3 _ _ (.string ⟨#[]⟩) HR8
          refine bodyPost_ret (results_cell_row rfl _ _ R _ #[.int .i64 1, .slice none 0 0, .string ⟨#[]⟩, .string ⟨#[]⟩] (0, 0) _ rfl HR9 Tryz.underlying25 rfl (by kernel_rfl)) rfl ?_
          have k9 : Keeps [R] w1 _ := ((((Keeps.refl [R] w1).setCell (.inl (by simp)) (.int .i64 1) (p := ⟨R, 0, none⟩)).setCell (.inl (by simp)) (.slice none 0 0) (p := ⟨R, 1, none⟩)).setCell (.inl (by simp)) (.string ⟨#[]⟩) (p := ⟨R, 2, none⟩)).setCell (.inl (by simp)) (.string ⟨#[]⟩) (p := ⟨R, 3, none⟩)
          refine ⟨fun k s v R' h9 => ?_, fun h9 => (by rw [HHP.out] at h9; cases h9), HEND.out _ _ HK1.out k9⟩
          rw [HHP.out] at h9
          cases h9
          exact ⟨rfl, HX1.out.keep k9 (by simpa using HGR.out.symm)⟩
      · have HC := Lib.hid (HH.out [124] (by decide) wr HX.out)
        have HSG := Lib.hid (fun (hy : begP [124] T = true) => head_sign (T := T) (k := 2) (by omega) (by omega) HNO.out hy)
        have HN2 := Lib.hid (fun (hy : begP [124] T = false) => sgn_more (T := T) (k := 2) HNO.out hy)
        obtain ⟨q, hq⟩ : ∃ q, begP [124] T = q := ⟨_, rfl⟩
        have HQ := Lib.hid hq
        rw [hq] at HC HSG HN2
        unfold tv at HC
        clear hq
        go_wp2_with fail
        refine HC.out.mono ?_
        rintro e w1 ⟨rfl, hr1, hk5⟩
        have HK1 : Hid (Keeps [g] W1 w1) := HK.out.trans hk5 (fun x hx => .inl hx)
        clear hk5
        cases q
        · rw [behP_no HQ.out] at hr1
          have HX1 := Lib.hid hr1
          clear hr1
          go_wp2_with fail
          go_roundw
          case rel => exact ⟨3, by rfl, by omega, by omega, HN2.out (by first | exact trivial | rfl), HX1.out, HK1.out⟩
          case measure => decide
        · rw [behP_yes HQ.out] at hr1
          have HX1 := Lib.hid hr1
          have HHP := Lib.hid (HSG.out (by first | exact trivial | rfl))
          clear hr1
          have HC0 := Lib.hid (HCELL.out w1 HK1.out)
          obtain ⟨⟨r0, r1, r2, r3⟩, s0, s1, s2, s3⟩ := four_facts8 HC0.out
          go_wp2_with fail
          have HR6 := heap_setCell_same _ R 0 _ _ (.int .i64 2) HC0.out
          have HR7 := heap_setCell_same _ R 1 _ _ (.slice none 0 0) HR6
          have HR8 := heap_setCell_same _ R 2 _ _ (.string ⟨#[]⟩) HR7
          have HR9 := heap_setCell_same _ R 3 _ _ (.string ⟨#[]⟩) HR8
          refine bodyPost_ret (results_cell_row rfl _ _ R _ #[.int .i64 2, .slice none 0 0, .string ⟨#[]⟩, .string ⟨#[]⟩] (0, 0) _ rfl HR9 Tryz.underlying25 rfl (by kernel_rfl)) rfl ?_
          have k9 : Keeps [R] w1 _ := ((((Keeps.refl [R] w1).setCell (.inl (by simp)) (.int .i64 2) (p := ⟨R, 0, none⟩)).setCell (.inl (by simp)) (.slice none 0 0) (p := ⟨R, 1, none⟩)).setCell (.inl (by simp)) (.string ⟨#[]⟩) (p := ⟨R, 2, none⟩)).setCell (.inl (by simp)) (.string ⟨#[]⟩) (p := ⟨R, 3, none⟩)
          refine ⟨fun k s v R' h9 => ?_, fun h9 => (by rw [HHP.out] at h9; cases h9), HEND.out _ _ HK1.out k9⟩
          rw [HHP.out] at h9
          cases h9
          exact ⟨rfl, HX1.out.keep k9 (by simpa using HGR.out.symm)⟩
      · have HC := Lib.hid (HH.out [33] (by decide) wr HX.out)
        have HSG := Lib.hid (fun (hy : begP [33] T = true) => head_sign (T := T) (k := 3) (by omega) (by omega) HNO.out hy)
        have HN2 := Lib.hid (fun (hy : begP [33] T = false) => sgn_more (T := T) (k := 3) HNO.out hy)
        obtain ⟨q, hq⟩ : ∃ q, begP [33] T = q := ⟨_, rfl⟩
        have HQ := Lib.hid hq
        rw [hq] at HC HSG HN2
        unfold tv at HC
        clear hq
        go_wp2_with fail
        refine HC.out.mono ?_
        rintro e w1 ⟨rfl, hr1, hk5⟩
        have HK1 : Hid (Keeps [g] W1 w1) := HK.out.trans hk5 (fun x hx => .inl hx)
        clear hk5
        cases q
        · rw [behP_no HQ.out] at hr1
          have HX1 := Lib.hid hr1
          clear hr1
          go_wp2_with fail
          go_roundw
          case rel => exact ⟨4, by rfl, by omega, by omega, HN2.out (by first | exact trivial | rfl), HX1.out, HK1.out⟩
          case measure => decide
        · rw [behP_yes HQ.out] at hr1
          have HX1 := Lib.hid hr1
          have HHP := Lib.hid (HSG.out (by first | exact trivial | rfl))
          clear hr1
          have HC0 := Lib.hid (HCELL.out w1 HK1.out)
          obtain ⟨⟨r0, r1, r2, r3⟩, s0, s1, s2, s3⟩ := four_facts8 HC0.out
          go_wp2_with fail
          have HR6 := heap_setCell_same _ R 0 _ _ (.int .i64 3) HC0.out
          have HR7 := heap_setCell_same _ R 1 _ _ (.slice none 0 0) HR6
          have HR8 := heap_setCell_same _ R 2 _ _ (.string ⟨#[]⟩) HR7
          have HR9 := heap_setCell_same _ R 3 _ _ (.string ⟨#[]⟩) HR8
          refine bodyPost_ret (results_cell_row rfl _ _ R _ #[.int .i64 3, .slice none 0 0, .string ⟨#[]⟩, .string ⟨#[]⟩] (0, 0) _ rfl HR9 Tryz.underlying25 rfl (by kernel_rfl)) rfl ?_
          have k9 : Keeps [R] w1 _ := ((((Keeps.refl [R] w1).setCell (.inl (by simp)) (.int .i64 3) (p := ⟨R, 0, none⟩)).setCell (.inl (by simp)) (.slice none 0 0) (p := ⟨R, 1, none⟩)).setCell (.inl (by simp)) (.string ⟨#[]⟩) (p := ⟨R, 2, none⟩)).setCell (.inl (by simp)) (.string ⟨#[]⟩) (p := ⟨R, 3, none⟩)
          refine ⟨fun k s v R' h9 => ?_, fun h9 => (by rw [HHP.out] at h9; cases h9), HEND.out _ _ HK1.out k9⟩
          rw [HHP.out] at h9
          cases h9
          exact ⟨rfl, HX1.out.keep k9 (by simpa using HGR.out.symm)⟩
end Go.Proofs.YtoggddoeanfjeaaGreatDoor
/- filter: what filter a text says, as words. -/
namespace Go.Proofs.YtoggddoeanfjeaaGreatDoor
open Go.RowKit Go.Shelf
set_option linter.unusedVariables false
set_option linter.unusedSimpArgs false
set_option maxRecDepth 100000

mutual
/-- The filter that a text begins with, how many are passed then, what is left. -/
def rdF : Nat → Nat → Nat → Txt → Option (FV × Nat × Txt)
  | 0, _, _, _ => none
  | f + 1, d, m, T => if m < 200 ∧ d ≤ 16 then (if begP [40] T = true then (match headP (T.drop 1) with
      | none => none
      | some (k, s, v, R) => match (if k ≤ 3 then rdL f (d + 1) (m + 1) R else some ([], m + 1, R)) with
        | none => none
        | some (l, n, R2) => if begP [41] R2 = true then some (.mk k l s v, n, R2.drop 1) else none) else none) else none
def rdL : Nat → Nat → Nat → Txt → Option (List FV × Nat × Txt)
  | 0, _, _, _ => none
  | f + 1, d, m, T => if begP [40] T = true then (match rdF f d m T with
      | none => none
      | some (t, n, R) => match rdL f d n R with
        | none => none
        | some (l, n2, R2) => some (t :: l, n2, R2)) else some ([], m, T)
end
/-- What a whole text says. -/
def rdT (T : Txt) : Option FV := match rdF 402 1 0 T with
  | some (t, _, []) => some t
  | _ => none
theorem plnV_len : ∀ (f : Nat) (T v : Txt), plnV f T = some v → v.length ≤ T.length
  | _, [], v, h => by
    cases v with
    | nil => simp
    | cons a b => unfold plnV at h; cases h
  | 0, c :: l, v, h => by unfold plnV at h; cases h
  | f + 1, c :: l, v, h => by
    rw [plnV_cons] at h
    split at h
    · split at h
      · obtain ⟨n, hn, h⟩ := Option.bind_eq_some_iff.1 h
        obtain ⟨u, hu, rfl⟩ := Option.map_eq_some_iff.1 h
        have := plnV_len f _ u hu
        simp at this ⊢
        omega
      · cases h
    · split at h
      · obtain ⟨u, hu, rfl⟩ := Option.map_eq_some_iff.1 h
        have := plnV_len f _ u hu
        simp
        omega
      · cases h
theorem headP_facts {T : Txt} {k : Int} {s v R : Txt} (h : headP T = some (k, s, v, R)) : 1 ≤ k ∧ k ≤ 6 ∧ s.length ≤ T.length ∧ v.length ≤ T.length ∧ R.length ≤ T.length := by
  unfold headP at h
  split at h
  · cases h; simp
  · split at h
    · cases h; simp
    · split at h
      · cases h; simp
      · split at h
        · cases h
        · split at h
          · cases h
          · split at h
            · cases h
            · rename_i x1 n hn x2 m hm x3 u hu
              injection h with h
              injection h with h1 h
              injection h with h2 h
              injection h with h3 h
              subst h1 h2 h3 h
              have h4 := plnV_len _ _ _ hu
              have h5 := behP_len [42] (((T.drop n).drop 1).drop m)
              simp at h4 h5 ⊢
              refine ⟨?_, ?_, by omega, by omega, by omega⟩ <;> (repeat (split <;> try decide))
mutual
theorem rdF_facts : ∀ (f d m : Nat) (T : Txt) (t : FV) (n : Nat) (R : Txt), rdF f d m T = some (t, n, R) → m < 200 ∧ d ≤ 16 ∧ m + 1 ≤ n ∧ n ≤ 200 ∧ R.length ≤ T.length
  | 0, d, m, T, t, n, R, h => by unfold rdF at h; cases h
  | f + 1, d, m, T, t, n, R, h => by
    unfold rdF at h
    split at h
    · rename_i hmd
      split at h
      · split at h
        · cases h
        · rename_i k s v R1 hh
          split at h
          · cases h
          · rename_i l n1 R2 hl
            split at h
            · injection h with h
              injection h with h1 h
              injection h with h2 h
              subst h1 h2 h
              have h1 := (headP_facts hh).2.2.2.2
              split at hl
              · have h2 := rdL_facts f (d + 1) (m + 1) R1 l n1 R2 (by omega) hl
                simp at h1 ⊢
                omega
              · cases hl
                simp at h1 ⊢
                omega
            · cases h
      · cases h
    · cases h
theorem rdL_facts : ∀ (f d m : Nat) (T : Txt) (l : List FV) (n : Nat) (R : Txt), m ≤ 200 → rdL f d m T = some (l, n, R) → m ≤ n ∧ n ≤ 200 ∧ R.length ≤ T.length
  | 0, d, m, T, l, n, R, hm, h => by unfold rdL at h; cases h
  | f + 1, d, m, T, l, n, R, hm, h => by
    unfold rdL at h
    split at h
    · split at h
      · cases h
      · rename_i t n1 R1 h1
        split at h
        · cases h
        · rename_i l2 n2 R2 h2
          injection h with h
          injection h with e1 h
          injection h with e2 h
          subst e1 e2 h
          have h3 := rdF_facts f d m T t n1 R1 h1
          have h4 := rdL_facts f d n1 R1 l2 n2 R2 (by omega) h2
          omega
    · cases h; omega
end
/-- A list under way. -/
def RdI (f0 d m0 : Nat) (R0 : Txt) (l : List FV) (n : Nat) (R : Txt) : Prop := ∃ f, 2 * (201 - n) + 1 ≤ f ∧ f ≤ f0 ∧ rdL f0 d m0 R0 = (rdL f d n R).map fun x => (l ++ x.1, x.2.1, x.2.2)
theorem RdI.start {f0 d m0 : Nat} {R0 : Txt} (h : 2 * (201 - m0) + 1 ≤ f0) : RdI f0 d m0 R0 [] m0 R0 := ⟨f0, h, Nat.le_refl _, by cases rdL f0 d m0 R0 <;> simp⟩
theorem RdI.fin {f0 d m0 n : Nat} {R0 R : Txt} {l : List FV} (h : RdI f0 d m0 R0 l n R) (hb : begP [40] R = false) : rdL f0 d m0 R0 = some (l, n, R) := by
  obtain ⟨f, h1, _, h2⟩ := h
  rw [h2]
  cases f with
  | zero => omega
  | succ f => unfold rdL; rw [if_neg (by rw [hb]; simp)]; simp
/-- The next one: with what fuel it is read. -/
theorem RdI.next {f0 d m0 n : Nat} {R0 R : Txt} {l : List FV} (h : RdI f0 d m0 R0 l n R) (hb : begP [40] R = true) (hn : n ≤ 200) : ∃ f, f < f0 ∧ 2 * (201 - n) ≤ f ∧ (rdF f d n R = none → rdL f0 d m0 R0 = none) ∧ (∀ t n1 R1, rdF f d n R = some (t, n1, R1) → RdI f0 d m0 R0 (l ++ [t]) n1 R1) := by
  obtain ⟨f, h1, h3, h2⟩ := h
  cases f with
  | zero => omega
  | succ f =>
    refine ⟨f, by omega, by omega, fun h4 => ?_, fun t n1 R1 h4 => ?_⟩
    · rw [h2]; unfold rdL; rw [if_pos hb, h4]; rfl
    · have h5 := rdF_facts _ _ _ _ _ _ _ h4
      refine ⟨f, by omega, by omega, ?_⟩
      rw [h2]
      conv => lhs; unfold rdL
      rw [if_pos hb, h4]
      dsimp only
      cases rdL f d n1 R1 with
      | none => rfl
      | some x => obtain ⟨a, b, c⟩ := x; simp
theorem rdF_off {f d m : Nat} {T : Txt} (h : ¬ (m < 200 ∧ d ≤ 16)) : rdF f d m T = none := by
  cases f with
  | zero => unfold rdF; rfl
  | succ f => unfold rdF; rw [if_neg h]
theorem rdF_closed {f d m : Nat} {T : Txt} (h : begP [40] T = false) : rdF f d m T = none := by
  cases f with
  | zero => unfold rdF; rfl
  | succ f =>
    unfold rdF
    split
    · rw [if_neg (by rw [h]; simp)]
    · rfl
theorem rdF_nohead {f d m : Nat} {T : Txt} (h : headP (T.drop 1) = none) : rdF f d m T = none := by
  cases f with
  | zero => unfold rdF; rfl
  | succ f =>
    unfold rdF
    split
    · split
      · rw [h]
      · rfl
    · rfl
theorem rdF_in {f d m : Nat} {T : Txt} {k : Int} {s v R : Txt} (h1 : m < 200 ∧ d ≤ 16) (h2 : begP [40] T = true) (h3 : headP (T.drop 1) = some (k, s, v, R)) : rdF (f + 1) d m T = match (if k ≤ 3 then rdL f (d + 1) (m + 1) R else some ([], m + 1, R)) with
    | none => none
    | some (l, n, R2) => if begP [41] R2 = true then some (.mk k l s v, n, R2.drop 1) else none := by
  conv => lhs; unfold rdF
  rw [if_pos h1, if_pos h2, h3]
end Go.Proofs.YtoggddoeanfjeaaGreatDoor
/- filter: readText's closure: what it holds, what a round finds. -/
namespace Go.Proofs.YtoggddoeanfjeaaGreatDoor
open Go.RowKit Go.Shelf
set_option linter.unusedVariables false
set_option linter.unusedSimpArgs false
set_option maxRecDepth 100000

/-- What does not turn: what readText's closure holds. -/
structure EnvR (gp gr gx gm gn : Nat) (w : World) : Prop where
  pass : w.cell? ⟨gp, 0, none⟩ = some (.func (.func 92) #[] #[.pointer (some ⟨gm, 0, none⟩), .pointer (some ⟨gn, 0, none⟩)])
  next : w.cell? ⟨gx, 0, none⟩ = some (.func (.func 64) #[] #[.pointer (some ⟨gp, 0, none⟩), .pointer (some ⟨gr, 0, none⟩), .pointer (some ⟨gx, 0, none⟩)])
  n1 : gp ≠ gm
  n2 : gp ≠ gr
  n3 : gx ≠ gm
  n4 : gx ≠ gr
  n5 : gm ≠ gr
  n6 : gn ≠ gr
theorem EnvR.keep {gp gr gx gm gn : Nat} {w w' : World} (h : EnvR gp gr gx gm gn w) (hk : Keeps [gm, gr] w w') : EnvR gp gr gx gm gn w' :=
  ⟨(hk.cell (p := ⟨gp, 0, none⟩) (lt_of_cell h.pass) (by simp; exact ⟨h.n1, h.n2⟩)).trans h.pass, (hk.cell (p := ⟨gx, 0, none⟩) (lt_of_cell h.next) (by simp; exact ⟨h.n3, h.n4⟩)).trans h.next, h.n1, h.n2, h.n3, h.n4, h.n5, h.n6⟩
/-- How readText's closure ends. -/
def RdQ (f d m : Nat) (T : Txt) (gm gn gr : Nat) (w : World) (e : Ending) (w' : World) : Prop :=
  ((∃ t n R h, rdF f d m T = some (t, n, R) ∧ e = .returned (FH.val h) ∧ PassAt w' gm gn n 180 ∧ RstAt w' gr R ∧ ∀ (E : List Nat) X, (∀ x ∈ E, x < w.heap.size) → Keeps E w' X → FilAt X t h) ∨ rdF f d m T = none ∧ e = gaveUp8 180) ∧ Keeps [gm, gr] w w'
/-- How many may still be passed, as memory tells it. -/
def cntW (gm : Nat) (w : World) : Nat := match w.cell? ⟨gm, 0, none⟩ with | some (.int _ z) => 200 - z.toNat | _ => 0
theorem cntW_is {w : World} {gm gn m : Nat} {n : Int} (h : PassAt w gm gn m n) : cntW gm w = 200 - m := by
  unfold cntW
  rw [h.cells.1]
  simp
/-- What a round finds. -/
structure RedS (w wr : World) (gm gn gr B : Nat) (k : Int) (s v : Txt) (A : Option Addr) (j c : Nat) (hs : List FH) (l : List FV) (n : Nat) (R : Txt) : Prop where
  pass : PassAt wr gm gn n 180
  rst : RstAt wr gr R
  box : wr.heap[B]? = some (.cells #[.int .i64 k, .slice A j c, .string ⟨s.toArray⟩, .string ⟨v.toArray⟩] 25 (0, 0))
  res : wr.heap[w.heap.size]? = some (.cells #[.int .i64 0, .slice none 0 0, .string ⟨#[]⟩, .string ⟨#[]⟩] 25 (0, 0))
  row : wr.ownsRow (B + 1) 25 4 (.slice A j c) j (headsF hs)
  hsl : hs.length = j
  lsl : l.length = j
  items : ∀ (E : List Nat) X, (∀ x ∈ E, x < B + 1 ∨ (Value.slice A j c).ownBlock = some x) → Keeps E wr X → ∀ (i : Nat) (t : FV) (h : FH), l[i]? = some t → hs[i]? = some h → FilAt X t h
  keep : Keeps [gm, gr] w wr
  lo : w.heap.size < B
  len : R.length ≤ 1000000000
  nle : n ≤ 200
  jn : j ≤ n
theorem RedS.step {w wr w6 w7 w8 : World} {gm gn gr B : Nat} {k : Int} {s v : Txt} {A A8 : Option Addr} {j c c8 : Nat} {hs : List FH} {l : List FV} {n n' : Nat} {R R' : Txt} (H : RedS w wr gm gn gr B k s v A j c hs l n R) (hgm : gm < w.heap.size) (hgn : gn < w.heap.size) (hgr : gr < w.heap.size)
    {t : FV} {h : FH} (k6 : Keeps [gm, gr] wr w6) (hp6 : PassAt w6 gm gn n' 180) (hr6 : RstAt w6 gr R') (hp : ∀ (E : List Nat) X, (∀ x ∈ E, x < wr.heap.size) → Keeps E w6 X → FilAt X t h) (hn : n < n') (hn2 : n' ≤ 200) (hR : R'.length ≤ 1000000000) (k7 : Keeps [] w6 w7)
    (ho : w8.ownsRow (B + 1) 25 4 (.slice A8 (j + 1) c8) (j + 1) (headsF hs ++ h.list)) (hg : w7.grownBy w8 (Value.slice A j c).ownBlock) (hs8 : (Value.slice A8 (j + 1) c8).ownBlock = (Value.slice A j c).ownBlock ∨ (Value.slice A8 (j + 1) c8).ownBlock = some w7.heap.size) :
    RedS w (w8.setCell ⟨B, 1, none⟩ (.slice A8 (j + 1) c8)) gm gn gr B k s v A8 (j + 1) c8 (hs ++ [h]) (l ++ [t]) n' R' := by
  have hz6 := k6.size
  have hz7 := k7.size
  have hlo := H.lo
  have hjn := H.jn
  have hBr : B < wr.heap.size := lt_of_heap H.box
  have k8 : Keeps (Value.slice A j c).ownBlock.toList w7 w8 := Keeps.of_grown hg (fun x hx => .inl (by rw [hx]; simp))
  have hz8 := k8.size
  have k9 : Keeps [B] w8 (w8.setCell ⟨B, 1, none⟩ (.slice A8 (j + 1) c8)) := (Keeps.refl [B] w8).setCell (.inl (by simp)) _
  have hvl : ∀ x ∈ (Value.slice A j c).ownBlock.toList, B + 1 ≤ x ∧ x < wr.heap.size := fun x hx => H.row.lt x (by simpa using hx)
  have k68 : Keeps (Value.slice A j c).ownBlock.toList w6 w8 := (k7.mono (by simp)).trans k8 (fun x hx => .inl hx)
  have k69 : Keeps (B :: (Value.slice A j c).ownBlock.toList) w6 (w8.setCell ⟨B, 1, none⟩ (.slice A8 (j + 1) c8)) := (k68.mono (fun x hx => .inl (List.mem_cons_of_mem _ hx))).trans k9 (fun x hx => .inl (by simp at hx; simp [hx]))
  have kr9 : Keeps (gm :: gr :: B :: (Value.slice A j c).ownBlock.toList) wr (w8.setCell ⟨B, 1, none⟩ (.slice A8 (j + 1) c8)) := (k6.mono (cs := gm :: gr :: B :: (Value.slice A j c).ownBlock.toList) (fun x hx => .inl (by simp at hx ⊢; rcases hx with hx | hx <;> simp [hx]))).trans k69 (fun x hx => .inl (by simp at hx ⊢; rcases hx with hx | hx <;> simp [hx]))
  have hnb : ∀ x, x ≤ B → x ∉ (Value.slice A j c).ownBlock.toList := fun x hx hm => by have := hvl x hm; omega
  have hnb2 : ∀ x, x < B → x ∉ B :: (Value.slice A j c).ownBlock.toList := fun x hx hm => by
    rcases List.mem_cons.1 hm with hm | hm
    · omega
    · exact hnb x (by omega) hm
  have hbox8 : w8.heap[B]? = some (.cells #[.int .i64 k, .slice A j c, .string ⟨s.toArray⟩, .string ⟨v.toArray⟩] 25 (0, 0)) := blk_keep (blk_keep H.box k6 (by simp; omega)) k68 (hnb B (Nat.le_refl _))
  refine ⟨hp6.keep k69 (hnb2 gm (by omega)) (hnb2 gn (by omega)), hr6.keep k69 (hnb2 gr (by omega)), heap_setCell_same w8 B 1 _ _ _ hbox8, blk_keep (blk_keep H.res k6 (by simp; omega)) k69 (hnb2 _ hlo), ?_, by simp [H.hsl], by simp [H.lsl], fun E X hE hk i t' h' ht' hh' => ?_, H.keep.trans kr9 (fun x hx => ?_), hlo, hR, hn2, by omega⟩
  · rw [headsF_snoc]
    exact own_keep ho k9 (fun b hb hm => by have := (ho.lt b hb).1; simp at hm; omega)
  · have hcase : ∀ x ∈ E, x < wr.heap.size ∨ w7.heap.size ≤ x := fun x hx => by
      rcases hE x hx with h9 | h9
      · exact .inl (by omega)
      · rcases hs8 with h10 | h10
        · rw [h10] at h9
          exact .inl (hvl x (by rw [h9]; simp)).2
        · rw [h10] at h9
          injection h9 with h9
          exact .inr (by omega)
    have hold : ∀ x ∈ E, x < wr.heap.size → x < B + 1 ∨ (Value.slice A j c).ownBlock = some x := fun x hx hlt => by
      rcases hE x hx with h9 | h9
      · exact .inl h9
      · rcases hs8 with h10 | h10
        · rw [h10] at h9; exact .inr h9
        · rw [h10] at h9
          injection h9 with h9
          omega
    by_cases hj : i < j
    · rw [List.getElem?_append_left (by rw [H.lsl]; exact hj)] at ht'
      rw [List.getElem?_append_left (by rw [H.hsl]; exact hj)] at hh'
      have kX : Keeps ((gm :: gr :: B :: (Value.slice A j c).ownBlock.toList) ++ E.filter (fun x => decide (x < wr.heap.size))) wr X := by
        have k10 : Keeps ((gm :: gr :: B :: (Value.slice A j c).ownBlock.toList) ++ E.filter (fun x => decide (x < wr.heap.size))) wr _ := kr9.mono (fun x hx => .inl (List.mem_append_left _ hx))
        refine k10.trans hk (fun x hx => ?_)
        rcases hcase x hx with h9 | h9
        · exact .inl (List.mem_append_right _ (List.mem_filter.2 ⟨hx, by simpa using h9⟩))
        · exact .inr (by omega)
      refine H.items _ X (fun x hx => ?_) kX i t' h' ht' hh'
      rcases List.mem_append.1 hx with hx | hx
      · simp only [List.mem_cons] at hx
        rcases hx with hx | hx | hx | hx
        · exact .inl (by omega)
        · exact .inl (by omega)
        · exact .inl (by omega)
        · exact .inr (by simpa using hx)
      · obtain ⟨h9, h10⟩ := List.mem_filter.1 hx
        exact hold x h9 (by simpa using h10)
    · have hja : i = j := by
        have := (List.getElem?_eq_some_iff.1 ht').1
        simp [H.lsl] at this
        omega
      subst hja
      rw [List.getElem?_append_right (by rw [H.lsl]; exact Nat.le_refl _), H.lsl] at ht'
      rw [List.getElem?_append_right (by rw [H.hsl]; exact Nat.le_refl _), H.hsl] at hh'
      simp at ht' hh'
      subst ht' hh'
      have kX : Keeps ((B :: (Value.slice A i c).ownBlock.toList) ++ E.filter (fun x => decide (x < wr.heap.size))) w6 X := by
        have k10 : Keeps ((B :: (Value.slice A i c).ownBlock.toList) ++ E.filter (fun x => decide (x < wr.heap.size))) w6 _ := k69.mono (fun x hx => .inl (List.mem_append_left _ hx))
        refine k10.trans hk (fun x hx => ?_)
        rcases hcase x hx with h9 | h9
        · exact .inl (List.mem_append_right _ (List.mem_filter.2 ⟨hx, by simpa using h9⟩))
        · exact .inr (by show w6.heap.size ≤ x; omega)
      refine hp _ X (fun x hx => ?_) kX
      rcases List.mem_append.1 hx with hx | hx
      · rcases List.mem_cons.1 hx with hx | hx
        · omega
        · have := (hvl x hx).2; omega
      · have : x < wr.heap.size := by simpa using (List.mem_filter.1 hx).2
        omega
  · simp only [List.mem_cons] at hx
    rcases hx with hx | hx | hx | hx
    · exact .inl (by simp [hx])
    · exact .inl (by simp [hx])
    · exact .inr (by omega)
    · exact .inr (by have := (hvl x hx).1; omega)
/-- What the end leaves: the filter in the result's box. -/
theorem RedS.fin {w wr : World} {gm gn gr B : Nat} {k : Int} {s v : Txt} {A : Option Addr} {j c : Nat} {hs : List FH} {l : List FV} {n : Nat} {R : Txt} (H : RedS w wr gm gn gr B k s v A j c hs l n R) {w2 : World} (k2 : Keeps [gr] wr w2) {w3 : World} (k3 : Keeps [w.heap.size] w2 w3) (hgr : gr < w.heap.size) (hk : -9223372036854775808 ≤ k ∧ k ≤ 9223372036854775807) (hs9 : s.length ≤ 9223372036854775807) (hv9 : v.length ≤ 9223372036854775807) :
    ∀ (E : List Nat) X, (∀ x ∈ E, x < w.heap.size) → Keeps E w3 X → FilAt X (.mk k l s v) ⟨k, A, j, c, s, v⟩ := fun E X hE hX => by
  have hlo := H.lo
  have hB := lt_of_heap H.box
  have kX : Keeps (gr :: w.heap.size :: E) wr X := ((k2.mono (cs := gr :: w.heap.size :: E) (fun x hx => .inl (by simp at hx; simp [hx]))).trans k3 (fun x hx => .inl (by simp at hx; simp [hx]))).trans hX (fun x hx => .inl (by simp [hx]))
  have hrow := own_keep H.row kX (fun b hb hm => by
    have h9 := (H.row.lt b hb).1
    simp only [List.mem_cons] at hm
    rcases hm with hm | hm | hm
    · omega
    · omega
    · have := hE b hm; omega)
  have hcap := cap_of_own hrow
  refine ⟨rfl, rfl, rfl, hk.1, hk.2, hs9, hv9, H.lsl, hcap.1, hcap.2, fils_own hrow H.hsl H.lsl (fun i t' h' ht' hh' => H.items (gr :: w.heap.size :: E) X (fun x hx => ?_) kX i t' h' ht' hh')⟩
  simp only [List.mem_cons] at hx
  rcases hx with hx | hx | hx
  · exact .inl (by omega)
  · exact .inl (by omega)
  · exact .inl (by have := hE x hx; omega)
theorem RedS.grow {w wr X : World} {gm gn gr B : Nat} {k : Int} {s v : Txt} {A : Option Addr} {j c : Nat} {hs : List FH} {l : List FV} {n : Nat} {R : Txt} (H : RedS w wr gm gn gr B k s v A j c hs l n R) (hX : Keeps [] wr X) : RedS w X gm gn gr B k s v A j c hs l n R :=
  ⟨H.pass.keep hX (by simp) (by simp), H.rst.keep hX (by simp), blk_keep H.box hX (by simp), blk_keep H.res hX (by simp), own_keep H.row hX (fun b hb hm => by cases hm), H.hsl, H.lsl, fun E Y hE hk => H.items E Y hE ((hX.mono (cs := E) (by simp)).trans hk (fun x hx => .inl hx)), H.keep.trans' (hX.mono (by simp)), H.lo, H.len, H.nle, H.jn⟩
end Go.Proofs.YtoggddoeanfjeaaGreatDoor
