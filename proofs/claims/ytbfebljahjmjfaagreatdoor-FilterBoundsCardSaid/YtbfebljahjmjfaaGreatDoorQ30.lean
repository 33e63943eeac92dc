import Derived.Test.YtbfebljahjmjfaaGreatDoorQ29
import Derived.BigQuiet
/- filter: what a filter has but those in its Of, read off a text; walked. -/
namespace Go.Proofs.YtbfebljahjmjfaaGreatDoor
open Go.RowKit Go.Shelf
set_option linter.unusedVariables false
set_option linter.unusedSimpArgs false
set_option maxRecDepth 100000

/-- What head takes off: the kind, the name, the Value, what is left. -/
def headP (T : Txt) : Option (Int × Txt × Txt × Txt) :=
 if begP [38] T = true then some (1, [], [], T.drop 1) else if begP [124] T = true then some (2, [], [], T.drop 1) else if begP [33] T = true then some (3, [], [], T.drop 1) else
 match untP [61] T with
 | none => none
 | some n => match untP [40, 41, 42] ((T.drop n).drop 1) with
  | none => none
  | some m => match plnV (((T.drop n).drop 1).take m).length (((T.drop n).drop 1).take m) with
   | none => none
   | some v => some (if begP [42] (((T.drop n).drop 1).drop m) = true then (if v = [] then 6 else 5) else 4, T.take n, v, behP [42] (((T.drop n).drop 1).drop m))
def HeaQ (g : Nat) (T : Txt) (w : World) (e : Ending) (w' : World) : Prop :=
 (∀ k s v R, headP T = some (k, s, v, R) → e = .returned (FH.val ⟨k, none, 0, 0, s, v⟩) ∧ RstAt w' g R) ∧ (headP T = none → e = gaveUp8 180) ∧ Keeps [g] w w'
theorem SgnAt.keep8 {w X : World} {g : Nat} (h : SgnAt w) (hk : Keeps [g] w X) (hg : 0 ≠ g) : SgnAt X :=
 ⟨(hk.cell (lt_of_cell h.1) (by simpa using hg)).trans h.1, (hk.cell (lt_of_cell h.2.1) (by simpa using hg)).trans h.2.1, (hk.cell (lt_of_cell h.2.2) (by simpa using hg)).trans h.2.2⟩
theorem head_sign {T : Txt} {k : Nat} (h1 : 1 ≤ k) (h3 : k ≤ 3) (hn : ∀ j : Nat, 1 ≤ j → j < k → begP (sgnT j) T = false) (hy : begP (sgnT k) T = true) : headP T = some ((k : Int), [], [], T.drop 1) := by
 rcases (by omega : k = 1 ∨ k = 2 ∨ k = 3) with rfl | rfl | rfl
 ·have h9 : begP [38] T = true := hy
  unfold headP
  rw [if_pos h9]; rfl
 ·have h9 : begP [124] T = true := hy
  have h8 : begP [38] T = false := hn 1 (by omega) (by omega)
  unfold headP
  rw [if_neg (by rw [h8]; simp), if_pos h9]; rfl
 ·have h9 : begP [33] T = true := hy
  have h8 : begP [38] T = false := hn 1 (by omega) (by omega)
  have h7 : begP [124] T = false := hn 2 (by omega) (by omega)
  unfold headP
  rw [if_neg (by rw [h8]; simp), if_neg (by rw [h7]; simp), if_pos h9]; rfl
theorem untP_one : ∀ (T : Txt) (n : Nat), untP [61] T = some n → begP [61] (T.drop n) = true
 | [], n, h => by cases h
 | b :: l, n, h => by
  unfold untP at h
  split at h
  ·rename_i hc
   cases h
   have hb : b = 61 := by simpa using hc
   subst hb
   rfl
  ·obtain ⟨m, hm, rfl⟩ := Option.map_eq_some_iff.1 h
   exact untP_one l m hm
theorem headP_not {T : Txt} (h1 : begP [38] T = false) (h2 : begP [124] T = false) (h3 : begP [33] T = false) : headP T = match untP [61] T with
 | none => none
 | some n => match untP [40, 41, 42] ((T.drop n).drop 1) with
  | none => none
  | some m => match plnV (((T.drop n).drop 1).take m).length (((T.drop n).drop 1).take m) with
   | none => none
   | some v => some (if begP [42] (((T.drop n).drop 1).drop m) = true then (if v = [] then 6 else 5) else 4, T.take n, v, behP [42] (((T.drop n).drop 1).drop m)) := by
 unfold headP
 rw [if_neg (by rw [h1]; simp), if_neg (by rw [h2]; simp), if_neg (by rw [h3]; simp)]
theorem sgn_more {T : Txt} {k : Nat} (hn : ∀ j : Nat, 1 ≤ j → j < k → begP (sgnT j) T = false) (hy : begP (sgnT k) T = false) : ∀ j : Nat, 1 ≤ j → j < k + 1 → begP (sgnT j) T = false := fun j h1 h2 => by
 by_cases hj : j < k
 ·exact hn j h1 hj
 ·obtain rfl : j = k := by omega
  exact hy
set_option maxHeartbeats 8000000 in
theorem head8_is (g : Nat) (T : Txt) (w : World) (h : RstAt w g T) (hT : T.length ≤ 1000000000) (hG : SgnAt w) (hs : SynAt w) (hg : 0 ≠ g) (hsg : 3 ≠ g) :
  Calls Tryz.prog 83 #[.pointer (some ⟨g, 0, none⟩)] w fun e w' => HeaQ g T w e w' := by
 have hgl := h.lt
 have HB0 := Lib.hid (heap_new8 w (.cells #[.int .i64 0, .slice none 0 0, .string ⟨#[]⟩, .string ⟨#[]⟩] 26))
 have hk0 : Keeps [] w (w.alloc (.cells #[.int .i64 0, .slice none 0 0, .string ⟨#[]⟩, .string ⟨#[]⟩] 26)) := (Keeps.refl [] w).alloc _
 obtain ⟨W1, hW1⟩ : ∃ W1, w.alloc (.cells #[.int .i64 0, .slice none 0 0, .string ⟨#[]⟩, .string ⟨#[]⟩] 26) = W1 := ⟨_, rfl⟩
 obtain ⟨R, hR⟩ : ∃ R, w.heap.size = R := ⟨_, rfl⟩
 rw [hW1, hR] at HB0
 rw [hW1] at hk0
 have HR := Lib.hid hR
 have HW1 := Lib.hid hW1
 have HGR : Hid (R ≠ g) := by show R ≠ g; omega
 have HK0 := Lib.hid hk0
 have HG : Hid (∀ X, Keeps [g] W1 X → SgnAt X) := fun X hX => (hG.keep hk0).keep8 hX hg
 have HS : Hid (∀ X, Keeps [g] W1 X → SynAt X) := fun X hX => (hs.keep hk0 (by simp)).keep hX (by simpa using hsg)
 have HB : Hid (RstAt W1 g T) := h.keep hk0 (by simp)
 have HT := Lib.hid hT
 have HH := Lib.hid (fun (p : Txt) (hp : p.length ≤ 1) X (hX : RstAt X g T) => has8_is g T p X hX hT (by omega))
 have HEND : Hid (∀ X Y, Keeps [g] W1 X → Keeps [R] X Y → Keeps [g] w Y) := fun X Y h1 h2 => ((hk0.mono (by simp)).trans h1 (fun x hx => .inl hx)).trans h2 (fun x hx => .inr (by simp at hx; subst hx; omega))
 have HCELL : Hid (∀ X, Keeps [g] W1 X → X.heap[R]? = some (.cells #[.int .i64 0, .slice none 0 0, .string ⟨#[]⟩, .string ⟨#[]⟩] 26 (0, 0))) := fun X hX => blk_keep HB0.out hX (by simpa using HGR.out)
 clear h hT hG hs hg hsg hW1 hk0
 go_enter Tryz.func83, Tryz.ntmps83
 go_wp2_with fail
 rw [HW1.out]
 try simp only [hR]
 clear hR
 go_loopw [3] (fun kd wr => ∃ k : Nat, kd = .int .i64 (k : Int) ∧ 1 ≤ k ∧ k ≤ 4 ∧ Hid (∀ j : Nat, 1 ≤ j → j < k → begP (sgnT j) T = false) ∧ Hid (RstAt wr g T) ∧ Hid (Keeps [g] W1 wr)) (fun kd _ => 4 - (intOf kd).toNat)
 case atStart => exact ⟨1, rfl, by omega, by omega, fun j h1 h2 => by omega, HB.out, Keeps.refl _ _⟩
 case round =>
  obtain ⟨k, rfl, hk1, hk4, HNO, HX, HK⟩ := hrel
  by_cases h4 : k = 4
  ·subst h4
   have HHD := Lib.hid (headP_not (T := T) (HNO.out 1 (by omega) (by omega)) (HNO.out 2 (by omega) (by omega)) (HNO.out 3 (by omega) (by omega)))
   have HBAD : Hid (∀ X, Keeps [g] W1 X → headP T = none → HeaQ g T w (gaveUp8 180) X) := fun X hX h9 => ⟨fun k s v R h8 => (by rw [h9] at h8; cases h8), fun _ => rfl, HEND.out X X hX (Keeps.refl _ _)⟩
   have HRU := Lib.hid (untP_index [61] T)
   cases hn : untP [61] T with
   | none =>
    rw [hn] at HRU HHD
    have HI := Lib.hid (fun W => by have h9 := iany_one T W; rw [HRU.out] at h9; exact h9)
    have HU := Lib.hid (until8_no g T ⟨#[61]⟩ wr HX.out HI.out)
    have HR9 := Lib.hid (fun X hX => HBAD.out X hX HHD.out)
    clear hn
    go_wp2_with fail
    refine HU.out.mono ?_
    rintro e w1 ⟨rfl, hk⟩
    have HR8 := Lib.hid (HR9.out w1 (HK.out.trans hk (fun x hx => .inl hx)))
    clear hk
    go_wp2_with fail
    exact ⟨rfl, HR8.out⟩
   | some n =>
    have hnl := untP_le _ _ _ hn
    have hb := untP_one _ _ hn
    rw [hn] at HRU HHD
    have HI := Lib.hid (fun W => by have h9 := iany_one T W; rw [HRU.out] at h9; exact h9)
    have HU := Lib.hid (until8_yes g T ⟨#[61]⟩ n wr HX.out (by omega) HI.out)
    have HTK := Lib.hid (fun X (hX : RstAt X g (T.drop n)) => take8_yes g (T.drop n) [61] X hX (by have := HT.out; rw [List.length_drop]; omega) (by decide) hb)
    obtain ⟨U, hU⟩ : ∃ U, (T.drop n).drop 1 = U := ⟨_, rfl⟩
    have HUL : Hid (U.length ≤ 1000000000) := by have := HT.out; show _ ≤ _; rw [← hU, List.length_drop, List.length_drop]; omega
    rw [show ([61] : Txt).length = 1 from rfl] at HTK
    rw [hU] at HTK
    dsimp only at HHD
    rw [hU] at HHD
    clear hn hnl hb hU
    obtain ⟨x, hx⟩ : ∃ x, T.take n = x := ⟨_, rfl⟩
    rw [hx] at HU HHD
    clear hx
    generalize T.drop n = T2 at HU HTK
    have HRU2 := Lib.hid (untP_index [40, 41, 42] U)
    unfold tv at HU HTK
    go_wp2_with fail
    refine HU.out.mono ?_
    rintro e w1 ⟨rfl, hr1, hk1⟩
    have HX1 := Lib.hid hr1
    have HK1 : Hid (Keeps [g] W1 w1) := HK.out.trans hk1 (fun x hx => .inl hx)
    clear hr1 hk1
    obtain ⟨F, hF⟩ : ∃ F, w1.heap.size = F := ⟨_, rfl⟩
    have HF0 := Lib.hid (heap_new8 w1 (.cells #[.int .i64 4, .slice none 0 0, .string ⟨x.toArray⟩, .string ⟨#[]⟩] 26))
    have HKF : Hid (Keeps [] w1 (w1.alloc (.cells #[.int .i64 4, .slice none 0 0, .string ⟨x.toArray⟩, .string ⟨#[]⟩] 26))) := (Keeps.refl [] w1).alloc _
    have HFL : Hid (W1.heap.size ≤ F ∧ g < F ∧ R < F) := by
     have e1 := HK1.out.size
     have e2 := lt_of_heap HB0.out
     have e3 := HX1.out.lt
     exact ⟨by omega, by omega, by omega⟩
    rw [hF] at HF0
    go_wp2_with fail
    try simp only [hF]
    clear hF
    generalize w1.alloc (.cells #[.int .i64 4, .slice none 0 0, .string ⟨x.toArray⟩, .string ⟨#[]⟩] 26) = w1a at HF0 HKF ⊢
    refine (HTK.out w1a (HX1.out.keep HKF.out (by simp))).mono ?_
    rintro e w2 ⟨rfl, hr2, hk2⟩
    have HX2 := Lib.hid hr2
    have HK2 : Hid (Keeps [g] W1 w2) := (HK1.out.trans HKF.out (fun x hx => by cases hx)).trans hk2 (fun x hx => .inl hx)
    have HF2 := Lib.hid (blk_keep HF0.out hk2 (by have := HFL.out; simp; omega))
    clear hr2 hk2
    cases hm : untP [40, 41, 42] U with
    | none =>
     rw [hm] at HRU2 HHD
     have HI2 := Lib.hid (fun W => by have h9 := iany_is U W HUL.out; rw [HRU2.out] at h9; exact h9)
     have HU2 := Lib.hid (until8_no g U ⟨#[40, 41, 42]⟩ w2 HX2.out HI2.out)
     have HR9 := Lib.hid (fun X hX => HBAD.out X hX HHD.out)
     clear hm
     go_wp2_with fail
     refine HU2.out.mono ?_
     rintro e w3 ⟨rfl, hk⟩
     have HR8 := Lib.hid (HR9.out w3 (HK2.out.trans hk (fun x hx => .inl hx)))
     clear hk
     go_wp2_with fail
     exact ⟨rfl, HR8.out⟩
    | some m =>
     have hml := untP_le _ _ _ hm
     rw [hm] at HRU2 HHD
     have HI2 := Lib.hid (fun W => by have h9 := iany_is U W HUL.out; rw [HRU2.out] at h9; exact h9)
     have HU2 := Lib.hid (until8_yes g U ⟨#[40, 41, 42]⟩ m w2 HX2.out (by omega) HI2.out)
     have HPV := Lib.hid (fun X (hX : Keeps [g] W1 X) => plainvalue_is (U.take m) X (by have := HUL.out; rw [List.length_take]; omega) (HS.out X hX))
     dsimp only at HHD
     have HVL : Hid ((U.drop m).length ≤ 1000000000) := by have := HUL.out; show _ ≤ _; rw [List.length_drop]; omega
     unfold PlvQ at HPV
     clear hm hml
     generalize U.take m = V at HU2 HPV HHD
     generalize U.drop m = Z at HU2 HVL HHD
     obtain ⟨pv, hpv⟩ : ∃ pv, plnV V.length V = pv := ⟨_, rfl⟩
     rw [hpv] at HPV HHD
     clear hpv
     unfold tv at HU2 HPV
     go_wp2_with fail
     refine HU2.out.mono ?_
     rintro e w3 ⟨rfl, hr3, hk3⟩
     have HX3 := Lib.hid hr3
     have HK3 : Hid (Keeps [g] W1 w3) := HK2.out.trans hk3 (fun x hx => .inl hx)
     have HF3 := Lib.hid (blk_keep HF2.out hk3 (by have := HFL.out; simp; omega))
     clear hr3 hk3
     go_wp2_with fail
     refine (HPV.out w3 HK3.out).mono ?_
     rintro e w4 ⟨hp1, hp2, hk4⟩
     have HX4 := Lib.hid (HX3.out.keep hk4 (by simp))
     have HK4 : Hid (Keeps [g] W1 w4) := HK3.out.trans hk4 (fun x hx => by cases hx)
     have HF4 := Lib.hid (blk_keep HF3.out hk4 (by simp))
     clear hk4
     cases pv with
     | none =>
      obtain rfl := hp2 rfl
      have HR8 := Lib.hid (HBAD.out w4 HK4.out HHD.out)
      clear hp1 hp2
      go_wp2_with fail
      exact ⟨rfl, HR8.out⟩
     | some v =>
      obtain rfl := hp1 v rfl
      clear hp1 hp2
      dsimp only at HHD
      have HF5 := Lib.hid (heap_setCell_same w4 F 3 _ _ (.string ⟨v.toArray⟩) HF4.out)
      have HX5 : Hid (RstAt (w4.setCell ⟨F, 3, none⟩ (.string ⟨v.toArray⟩)) g Z) := HX4.out.keep (bs := [F]) ((Keeps.refl [F] w4).setCell (.inl (by simp)) _) (by have := HFL.out; simp; omega)
      have HK5 : Hid (Keeps [g] W1 (w4.setCell ⟨F, 3, none⟩ (.string ⟨v.toArray⟩))) := HK4.out.setCell (.inr HFL.out.1) _
      have HH2 := Lib.hid (fun X (hX : RstAt X g Z) => has8_is g Z [42] X hX HVL.out (by decide))
      obtain ⟨q, hq⟩ : ∃ q, begP [42] Z = q := ⟨_, rfl⟩
      rw [hq] at HH2 HHD
      clear hq
      obtain ⟨Z2, hZ2⟩ : ∃ Z2, behP [42] Z = Z2 := ⟨_, rfl⟩
      rw [hZ2] at HH2 HHD
      clear hZ2
      unfold tv at HH2
      obtain ⟨⟨q0, q1, q2, q3⟩, y0, y1, y2, y3⟩ := four_facts8 HF4.out
      go_wp2_with fail
      generalize w4.setCell ⟨F, 3, none⟩ (.string ⟨v.toArray⟩) = w5 at HF5 HX5 HK5 ⊢
      refine (HH2.out w5 HX5.out).mono ?_
      rintro e w6 ⟨rfl, hr6, hk6⟩
      have HX6 := Lib.hid hr6
      have HK6 : Hid (Keeps [g] W1 w6) := HK5.out.trans hk6 (fun x hx => .inl hx)
      have HF6 := Lib.hid (blk_keep HF5.out hk6 (by have := HFL.out; simp; omega))
      clear hr6 hk6 q0 q1 q2 q3 y0 y1 y2 y3
      cases q
      ·have HCR := Lib.hid (HCELL.out w6 HK6.out)
       have HHP : Hid (headP T = some (4, x, v, Z2)) := HHD.out
       have HKZ := HK6
       have HXZ := HX6
       obtain ⟨⟨q0, q1, q2, q3⟩, y0, y1, y2, y3⟩ := four_facts8 HF6.out
       obtain ⟨⟨r0, r1, r2, r3⟩, s0, s1, s2, s3⟩ := four_facts8 HCR.out
       go_wp2_with fail
       have HR6 := heap_setCell_same _ R 0 _ _ (.int .i64 4) HCR.out
       have HR7 := heap_setCell_same _ R 1 _ _ (.slice none 0 0) HR6
       have HR8 := heap_setCell_same _ R 2 _ _ (.string ⟨x.toArray⟩) HR7
       have HR9 := heap_setCell_same _ R 3 _ _ (.string ⟨v.toArray⟩) HR8
       refine bodyPost_ret (results_cell_row rfl _ _ R _ #[.int .i64 4, .slice none 0 0, .string ⟨x.toArray⟩, .string ⟨v.toArray⟩] (0, 0) _ rfl HR9 Tryz.underlying26 rfl (by kernel_rfl)) rfl ?_
       have k9 : Keeps [R] (w6) _ := ((((Keeps.refl [R] (w6)).setCell (.inl (by simp)) (.int .i64 4) (p := ⟨R, 0, none⟩)).setCell (.inl (by simp)) (.slice none 0 0) (p := ⟨R, 1, none⟩)).setCell (.inl (by simp)) (.string ⟨x.toArray⟩) (p := ⟨R, 2, none⟩)).setCell (.inl (by simp)) (.string ⟨v.toArray⟩) (p := ⟨R, 3, none⟩)
       refine ⟨fun k s v' R' h9 => ?_, fun h9 => (by rw [HHP.out] at h9; cases h9), HEND.out _ _ HKZ.out k9⟩
       rw [HHP.out] at h9
       cases h9
       exact ⟨rfl, HXZ.out.keep k9 (by simpa using HGR.out.symm)⟩
      ·have HF7 := Lib.hid (heap_setCell_same w6 F 0 _ _ (.int .i64 5) HF6.out)
       have HX7 : Hid (RstAt (w6.setCell ⟨F, 0, none⟩ (.int .i64 5)) g Z2) := HX6.out.keep (bs := [F]) ((Keeps.refl [F] w6).setCell (.inl (by simp)) _) (by have := HFL.out; simp; omega)
       have HK7 : Hid (Keeps [g] W1 (w6.setCell ⟨F, 0, none⟩ (.int .i64 5))) := HK6.out.setCell (.inr HFL.out.1) _
       obtain ⟨⟨q0, q1, q2, q3⟩, y0, y1, y2, y3⟩ := four_facts8 HF6.out
       obtain ⟨⟨u0, u1, u2, u3⟩, v0, v1, v2, v3⟩ := four_facts8 HF7.out
       have HCR7 := Lib.hid (HCELL.out _ HK7.out)
       obtain ⟨⟨r0, r1, r2, r3⟩, s0, s1, s2, s3⟩ := four_facts8 HCR7.out
       cases v with
       | nil =>
        have HF8 := Lib.hid (heap_setCell_same _ F 0 _ _ (.int .i64 6) HF7.out)
        have HX8 : Hid (RstAt ((w6.setCell ⟨F, 0, none⟩ (.int .i64 5)).setCell ⟨F, 0, none⟩ (.int .i64 6)) g Z2) := HX7.out.keep (bs := [F]) ((Keeps.refl [F] _).setCell (.inl (by simp)) _) (by have := HFL.out; simp; omega)
        have HK8 : Hid (Keeps [g] W1 ((w6.setCell ⟨F, 0, none⟩ (.int .i64 5)).setCell ⟨F, 0, none⟩ (.int .i64 6))) := HK7.out.setCell (.inr HFL.out.1) _
        obtain ⟨⟨a0, a1, a2, a3⟩, b0, b1, b2, b3⟩ := four_facts8 HF8.out
        have HCR := Lib.hid (HCELL.out _ HK8.out)
        obtain ⟨⟨e0, e1, e2, e3⟩, f0, f1, f2, f3⟩ := four_facts8 HCR.out
        have HHP : Hid (headP T = some (6, x, [], Z2)) := HHD.out
        have HKZ := HK8
        have HXZ := HX8
        go_wp2_with fail
        have HR6 := heap_setCell_same _ R 0 _ _ (.int .i64 6) HCR.out
        have HR7 := heap_setCell_same _ R 1 _ _ (.slice none 0 0) HR6
        have HR8 := heap_setCell_same _ R 2 _ _ (.string ⟨x.toArray⟩) HR7
        have HR9 := heap_setCell_same _ R 3 _ _ (.string ⟨([] : Txt).toArray⟩) HR8
        refine bodyPost_ret (results_cell_row rfl _ _ R _ #[.int .i64 6, .slice none 0 0, .string ⟨x.toArray⟩, .string ⟨([] : Txt).toArray⟩] (0, 0) _ rfl HR9 Tryz.underlying26 rfl (by kernel_rfl)) rfl ?_
        have k9 : Keeps [R] ((w6.setCell ⟨F, 0, none⟩ (.int .i64 5)).setCell ⟨F, 0, none⟩ (.int .i64 6)) _ := ((((Keeps.refl [R] ((w6.setCell ⟨F, 0, none⟩ (.int .i64 5)).setCell ⟨F, 0, none⟩ (.int .i64 6))).setCell (.inl (by simp)) (.int .i64 6) (p := ⟨R, 0, none⟩)).setCell (.inl (by simp)) (.slice none 0 0) (p := ⟨R, 1, none⟩)).setCell (.inl (by simp)) (.string ⟨x.toArray⟩) (p := ⟨R, 2, none⟩)).setCell (.inl (by simp)) (.string ⟨([] : Txt).toArray⟩) (p := ⟨R, 3, none⟩)
        refine ⟨fun k s v' R' h9 => ?_, fun h9 => (by rw [HHP.out] at h9; cases h9), HEND.out _ _ HKZ.out k9⟩
        rw [HHP.out] at h9
        cases h9
        exact ⟨rfl, HXZ.out.keep k9 (by simpa using HGR.out.symm)⟩
       | cons c cs =>
        have HCR := HCR7
        have HHP : Hid (headP T = some (5, x, c :: cs, Z2)) := HHD.out
        have HKZ := HK7
        have HXZ := HX7
        go_wp2_with fail
        have HR6 := heap_setCell_same _ R 0 _ _ (.int .i64 5) HCR.out
        have HR7 := heap_setCell_same _ R 1 _ _ (.slice none 0 0) HR6
        have HR8 := heap_setCell_same _ R 2 _ _ (.string ⟨x.toArray⟩) HR7
        have HR9 := heap_setCell_same _ R 3 _ _ (.string ⟨(c :: cs).toArray⟩) HR8
        refine bodyPost_ret (results_cell_row rfl _ _ R _ #[.int .i64 5, .slice none 0 0, .string ⟨x.toArray⟩, .string ⟨(c :: cs).toArray⟩] (0, 0) _ rfl HR9 Tryz.underlying26 rfl (by kernel_rfl)) rfl ?_
        have k9 : Keeps [R] (w6.setCell ⟨F, 0, none⟩ (.int .i64 5)) _ := ((((Keeps.refl [R] (w6.setCell ⟨F, 0, none⟩ (.int .i64 5))).setCell (.inl (by simp)) (.int .i64 5) (p := ⟨R, 0, none⟩)).setCell (.inl (by simp)) (.slice none 0 0) (p := ⟨R, 1, none⟩)).setCell (.inl (by simp)) (.string ⟨x.toArray⟩) (p := ⟨R, 2, none⟩)).setCell (.inl (by simp)) (.string ⟨(c :: cs).toArray⟩) (p := ⟨R, 3, none⟩)
        refine ⟨fun k s v' R' h9 => ?_, fun h9 => (by rw [HHP.out] at h9; cases h9), HEND.out _ _ HKZ.out k9⟩
        rw [HHP.out] at h9
        cases h9
        exact ⟨rfl, HXZ.out.keep k9 (by simpa using HGR.out.symm)⟩
  ·obtain ⟨g1, g2, g3⟩ := HG.out wr HK.out
   rcases (by omega : k = 1 ∨ k = 2 ∨ k = 3) with rfl | rfl | rfl
   ·have HC := Lib.hid (HH.out [38] (by decide) wr HX.out)
    have HSG := Lib.hid (fun (hy : begP [38] T = true) => head_sign (T := T) (k := 1) (by omega) (by omega) HNO.out hy)
    have HN2 := Lib.hid (fun (hy : begP [38] T = false) => sgn_more (T := T) (k := 1) HNO.out hy)
    obtain ⟨q, hq⟩ : ∃ q, begP [38] T = q := ⟨_, rfl⟩
    have HQ := Lib.hid hq
    rw [hq] at HC HSG HN2
    unfold tv at HC
    clear hq
    go_wp2_with fail
    refine HC.out.mono ?_
    rintro e w1 ⟨rfl, hr1, hk5⟩
    have HK1 : Hid (Keeps [g] W1 w1) := HK.out.trans hk5 (fun x hx => .inl hx)
    clear hk5
    cases q
    ·rw [behP_no HQ.out] at hr1
     have HX1 := Lib.hid hr1
     clear hr1
     go_wp2_with fail
     go_roundw
     case rel => exact ⟨2, by rfl, by omega, by omega, HN2.out (by first | exact trivial | rfl), HX1.out, HK1.out⟩
     case measure => decide
    ·rw [behP_yes HQ.out] at hr1
     have HX1 := Lib.hid hr1
     have HHP := Lib.hid (HSG.out (by first | exact trivial | rfl))
     clear hr1
     have HC0 := Lib.hid (HCELL.out w1 HK1.out)
     obtain ⟨⟨r0, r1, r2, r3⟩, s0, s1, s2, s3⟩ := four_facts8 HC0.out
     go_wp2_with fail
     have HR6 := heap_setCell_same _ R 0 _ _ (.int .i64 1) HC0.out
     have HR7 := heap_setCell_same _ R 1 _ _ (.slice none 0 0) HR6
     have HR8 := heap_setCell_same _ R 2 _ _ (.string ⟨#[]⟩) HR7
     have HR9 := heap_setCell_same _ R 3 _ _ (.string ⟨#[]⟩) HR8
     refine bodyPost_ret (results_cell_row rfl _ _ R _ #[.int .i64 1, .slice none 0 0, .string ⟨#[]⟩, .string ⟨#[]⟩] (0, 0) _ rfl HR9 Tryz.underlying26 rfl (by kernel_rfl)) rfl ?_
     have k9 : Keeps [R] w1 _ := ((((Keeps.refl [R] w1).setCell (.inl (by simp)) (.int .i64 1) (p := ⟨R, 0, none⟩)).setCell (.inl (by simp)) (.slice none 0 0) (p := ⟨R, 1, none⟩)).setCell (.inl (by simp)) (.string ⟨#[]⟩) (p := ⟨R, 2, none⟩)).setCell (.inl (by simp)) (.string ⟨#[]⟩) (p := ⟨R, 3, none⟩)
     refine ⟨fun k s v R' h9 => ?_, fun h9 => (by rw [HHP.out] at h9; cases h9), HEND.out _ _ HK1.out k9⟩
     rw [HHP.out] at h9
     cases h9
     exact ⟨rfl, HX1.out.keep k9 (by simpa using HGR.out.symm)⟩
   ·have HC := Lib.hid (HH.out [124] (by decide) wr HX.out)
    have HSG := Lib.hid (fun (hy : begP [124] T = true) => head_sign (T := T) (k := 2) (by omega) (by omega) HNO.out hy)
    have HN2 := Lib.hid (fun (hy : begP [124] T = false) => sgn_more (T := T) (k := 2) HNO.out hy)
    obtain ⟨q, hq⟩ : ∃ q, begP [124] T = q := ⟨_, rfl⟩
    have HQ := Lib.hid hq
    rw [hq] at HC HSG HN2
    unfold tv at HC
    clear hq
    go_wp2_with fail
    refine HC.out.mono ?_
    rintro e w1 ⟨rfl, hr1, hk5⟩
    have HK1 : Hid (Keeps [g] W1 w1) := HK.out.trans hk5 (fun x hx => .inl hx)
    clear hk5
    cases q
    ·rw [behP_no HQ.out] at hr1
     have HX1 := Lib.hid hr1
     clear hr1
     go_wp2_with fail
     go_roundw
     case rel => exact ⟨3, by rfl, by omega, by omega, HN2.out (by first | exact trivial | rfl), HX1.out, HK1.out⟩
     case measure => decide
    ·rw [behP_yes HQ.out] at hr1
     have HX1 := Lib.hid hr1
     have HHP := Lib.hid (HSG.out (by first | exact trivial | rfl))
     clear hr1
     have HC0 := Lib.hid (HCELL.out w1 HK1.out)
     obtain ⟨⟨r0, r1, r2, r3⟩, s0, s1, s2, s3⟩ := four_facts8 HC0.out
     go_wp2_with fail
     have HR6 := heap_setCell_same _ R 0 _ _ (.int .i64 2) HC0.out
     have HR7 := heap_setCell_same _ R 1 _ _ (.slice none 0 0) HR6
     have HR8 := heap_setCell_same _ R 2 _ _ (.string ⟨#[]⟩) HR7
     have HR9 := heap_setCell_same _ R 3 _ _ (.string ⟨#[]⟩) HR8
     refine bodyPost_ret (results_cell_row rfl _ _ R _ #[.int .i64 2, .slice none 0 0, .string ⟨#[]⟩, .string ⟨#[]⟩] (0, 0) _ rfl HR9 Tryz.underlying26 rfl (by kernel_rfl)) rfl ?_
     have k9 : Keeps [R] w1 _ := ((((Keeps.refl [R] w1).setCell (.inl (by simp)) (.int .i64 2) (p := ⟨R, 0, none⟩)).setCell (.inl (by simp)) (.slice none 0 0) (p := ⟨R, 1, none⟩)).setCell (.inl (by simp)) (.string ⟨#[]⟩) (p := ⟨R, 2, none⟩)).setCell (.inl (by simp)) (.string ⟨#[]⟩) (p := ⟨R, 3, none⟩)
     refine ⟨fun k s v R' h9 => ?_, fun h9 => (by rw [HHP.out] at h9; cases h9), HEND.out _ _ HK1.out k9⟩
     rw [HHP.out] at h9
     cases h9
     exact ⟨rfl, HX1.out.keep k9 (by simpa using HGR.out.symm)⟩
   ·have HC := Lib.hid (HH.out [33] (by decide) wr HX.out)
    have HSG := Lib.hid (fun (hy : begP [33] T = true) => head_sign (T := T) (k := 3) (by omega) (by omega) HNO.out hy)
    have HN2 := Lib.hid (fun (hy : begP [33] T = false) => sgn_more (T := T) (k := 3) HNO.out hy)
    obtain ⟨q, hq⟩ : ∃ q, begP [33] T = q := ⟨_, rfl⟩
    have HQ := Lib.hid hq
    rw [hq] at HC HSG HN2
    unfold tv at HC
    clear hq
    go_wp2_with fail
    refine HC.out.mono ?_
    rintro e w1 ⟨rfl, hr1, hk5⟩
    have HK1 : Hid (Keeps [g] W1 w1) := HK.out.trans hk5 (fun x hx => .inl hx)
    clear hk5
    cases q
    ·rw [behP_no HQ.out] at hr1
     have HX1 := Lib.hid hr1
     clear hr1
     go_wp2_with fail
     go_roundw
     case rel => exact ⟨4, by rfl, by omega, by omega, HN2.out (by first | exact trivial | rfl), HX1.out, HK1.out⟩
     case measure => decide
    ·rw [behP_yes HQ.out] at hr1
     have HX1 := Lib.hid hr1
     have HHP := Lib.hid (HSG.out (by first | exact trivial | rfl))
     clear hr1
     have HC0 := Lib.hid (HCELL.out w1 HK1.out)
     obtain ⟨⟨r0, r1, r2, r3⟩, s0, s1, s2, s3⟩ := four_facts8 HC0.out
     go_wp2_with fail
     have HR6 := heap_setCell_same _ R 0 _ _ (.int .i64 3) HC0.out
     have HR7 := heap_setCell_same _ R 1 _ _ (.slice none 0 0) HR6
     have HR8 := heap_setCell_same _ R 2 _ _ (.string ⟨#[]⟩) HR7
     have HR9 := heap_setCell_same _ R 3 _ _ (.string ⟨#[]⟩) HR8
     refine bodyPost_ret (results_cell_row rfl _ _ R _ #[.int .i64 3, .slice none 0 0, .string ⟨#[]⟩, .string ⟨#[]⟩] (0, 0) _ rfl HR9 Tryz.underlying26 rfl (by kernel_rfl)) rfl ?_
     have k9 : Keeps [R] w1 _ := ((((Keeps.refl [R] w1).setCell (.inl (by simp)) (.int .i64 3) (p := ⟨R, 0, none⟩)).setCell (.inl (by simp)) (.slice none 0 0) (p := ⟨R, 1, none⟩)).setCell (.inl (by simp)) (.string ⟨#[]⟩) (p := ⟨R, 2, none⟩)).setCell (.inl (by simp)) (.string ⟨#[]⟩) (p := ⟨R, 3, none⟩)
     refine ⟨fun k s v R' h9 => ?_, fun h9 => (by rw [HHP.out] at h9; cases h9), HEND.out _ _ HK1.out k9⟩
     rw [HHP.out] at h9
     cases h9
     exact ⟨rfl, HX1.out.keep k9 (by simpa using HGR.out.symm)⟩
end Go.Proofs.YtbfebljahjmjfaaGreatDoor
/- filter: what filter a text says, as words. -/
namespace Go.Proofs.YtbfebljahjmjfaaGreatDoor
open Go.RowKit Go.Shelf
set_option linter.unusedVariables false
set_option linter.unusedSimpArgs false
set_option maxRecDepth 100000

mutual
/-- The filter that a text begins with, how many are passed then, what is left. -/
def rdF : Nat → Nat → Nat → Txt → Option (FV × Nat × Txt)
 | 0, _, _, _ => none
 | f + 1, d, m, T => if m < 200 ∧ d ≤ 16 then (if begP [40] T = true then (match headP (T.drop 1) with
   | none => none
   | some (k, s, v, R) => match (if k ≤ 3 then rdL f (d + 1) (m + 1) R else some ([], m + 1, R)) with
    | none => none
    | some (l, n, R2) => if begP [41] R2 = true then some (.mk k l s v, n, R2.drop 1) else none) else none) else none
def rdL : Nat → Nat → Nat → Txt → Option (List FV × Nat × Txt)
 | 0, _, _, _ => none
 | f + 1, d, m, T => if begP [40] T = true then (match rdF f d m T with
   | none => none
   | some (t, n, R) => match rdL f d n R with
    | none => none
    | some (l, n2, R2) => some (t :: l, n2, R2)) else some ([], m, T)
end
/-- What a whole text says. -/
def rdT (T : Txt) : Option FV := match rdF 402 1 0 T with
 | some (t, _, []) => some t
 | _ => none
theorem plnV_len : ∀ (f : Nat) (T v : Txt), plnV f T = some v → v.length ≤ T.length
 | _, [], v, h => by
  cases v with
  | nil => simp
  | cons a b => unfold plnV at h; cases h
 | 0, c :: l, v, h => by unfold plnV at h; cases h
 | f + 1, c :: l, v, h => by
  rw [plnV_cons] at h
  split at h
  ·split at h
   ·obtain ⟨n, hn, h⟩ := Option.bind_eq_some_iff.1 h
    obtain ⟨u, hu, rfl⟩ := Option.map_eq_some_iff.1 h
    have := plnV_len f _ u hu
    simp at this ⊢
    omega
   ·cases h
  ·split at h
   ·obtain ⟨u, hu, rfl⟩ := Option.map_eq_some_iff.1 h
    have := plnV_len f _ u hu
    simp
    omega
   ·cases h
theorem headP_facts {T : Txt} {k : Int} {s v R : Txt} (h : headP T = some (k, s, v, R)) : 1 ≤ k ∧ k ≤ 6 ∧ s.length ≤ T.length ∧ v.length ≤ T.length ∧ R.length ≤ T.length := by
 unfold headP at h
 split at h
 ·cases h; simp
 ·split at h
  ·cases h; simp
  ·split at h
   ·cases h; simp
   ·split at h
    ·cases h
    ·split at h
     ·cases h
     ·split at h
      ·cases h
      ·rename_i x1 n hn x2 m hm x3 u hu
       injection h with h
       injection h with h1 h
       injection h with h2 h
       injection h with h3 h
       subst h1 h2 h3 h
       have h4 := plnV_len _ _ _ hu
       have h5 := behP_len [42] (((T.drop n).drop 1).drop m)
       simp at h4 h5 ⊢
       refine ⟨?_, ?_, by omega, by omega, by omega⟩ <;> (repeat (split <;> try decide))
mutual
theorem rdF_facts : ∀ (f d m : Nat) (T : Txt) (t : FV) (n : Nat) (R : Txt), rdF f d m T = some (t, n, R) → m < 200 ∧ d ≤ 16 ∧ m + 1 ≤ n ∧ n ≤ 200 ∧ R.length ≤ T.length
 | 0, d, m, T, t, n, R, h => by unfold rdF at h; cases h
 | f + 1, d, m, T, t, n, R, h => by
  unfold rdF at h
  split at h
  ·rename_i hmd
   split at h
   ·split at h
    ·cases h
    ·rename_i k s v R1 hh
     split at h
     ·cases h
     ·rename_i l n1 R2 hl
      split at h
      ·injection h with h
       injection h with h1 h
       injection h with h2 h
       subst h1 h2 h
       have h1 := (headP_facts hh).2.2.2.2
       split at hl
       ·have h2 := rdL_facts f (d + 1) (m + 1) R1 l n1 R2 (by omega) hl
        simp at h1 ⊢
        omega
       ·cases hl
        simp at h1 ⊢
        omega
      ·cases h
   ·cases h
  ·cases h
theorem rdL_facts : ∀ (f d m : Nat) (T : Txt) (l : List FV) (n : Nat) (R : Txt), m ≤ 200 → rdL f d m T = some (l, n, R) → m ≤ n ∧ n ≤ 200 ∧ R.length ≤ T.length
 | 0, d, m, T, l, n, R, hm, h => by unfold rdL at h; cases h
 | f + 1, d, m, T, l, n, R, hm, h => by
  unfold rdL at h
  split at h
  ·split at h
   ·cases h
   ·rename_i t n1 R1 h1
    split at h
    ·cases h
    ·rename_i l2 n2 R2 h2
     injection h with h
     injection h with e1 h
     injection h with e2 h
     subst e1 e2 h
     have h3 := rdF_facts f d m T t n1 R1 h1
     have h4 := rdL_facts f d n1 R1 l2 n2 R2 (by omega) h2
     omega
  ·cases h; omega
end
/-- A list under way. -/
def RdI (f0 d m0 : Nat) (R0 : Txt) (l : List FV) (n : Nat) (R : Txt) : Prop := ∃ f, 2 * (201 - n) + 1 ≤ f ∧ f ≤ f0 ∧ rdL f0 d m0 R0 = (rdL f d n R).map fun x => (l ++ x.1, x.2.1, x.2.2)
theorem RdI.start {f0 d m0 : Nat} {R0 : Txt} (h : 2 * (201 - m0) + 1 ≤ f0) : RdI f0 d m0 R0 [] m0 R0 := ⟨f0, h, Nat.le_refl _, by cases rdL f0 d m0 R0 <;> simp⟩
theorem RdI.fin {f0 d m0 n : Nat} {R0 R : Txt} {l : List FV} (h : RdI f0 d m0 R0 l n R) (hb : begP [40] R = false) : rdL f0 d m0 R0 = some (l, n, R) := by
 obtain ⟨f, h1, _, h2⟩ := h
 rw [h2]
 cases f with
 | zero => omega
 | succ f => unfold rdL; rw [if_neg (by rw [hb]; simp)]; simp
/-- The next one: with what fuel it is read. -/
theorem RdI.next {f0 d m0 n : Nat} {R0 R : Txt} {l : List FV} (h : RdI f0 d m0 R0 l n R) (hb : begP [40] R = true) (hn : n ≤ 200) : ∃ f, f < f0 ∧ 2 * (201 - n) ≤ f ∧ (rdF f d n R = none → rdL f0 d m0 R0 = none) ∧ (∀ t n1 R1, rdF f d n R = some (t, n1, R1) → RdI f0 d m0 R0 (l ++ [t]) n1 R1) := by
 obtain ⟨f, h1, h3, h2⟩ := h
 cases f with
 | zero => omega
 | succ f =>
  refine ⟨f, by omega, by omega, fun h4 => ?_, fun t n1 R1 h4 => ?_⟩
  ·rw [h2]; unfold rdL; rw [if_pos hb, h4]; rfl
  ·have h5 := rdF_facts _ _ _ _ _ _ _ h4
   refine ⟨f, by omega, by omega, ?_⟩
   rw [h2]
   conv => lhs; unfold rdL
   rw [if_pos hb, h4]
   dsimp only
   cases rdL f d n1 R1 with
   | none => rfl
   | some x => obtain ⟨a, b, c⟩ := x; simp
theorem rdF_off {f d m : Nat} {T : Txt} (h : ¬ (m < 200 ∧ d ≤ 16)) : rdF f d m T = none := by
 cases f with
 | zero => unfold rdF; rfl
 | succ f => unfold rdF; rw [if_neg h]
theorem rdF_closed {f d m : Nat} {T : Txt} (h : begP [40] T = false) : rdF f d m T = none := by
 cases f with
 | zero => unfold rdF; rfl
 | succ f =>
  unfold rdF
  split
  ·rw [if_neg (by rw [h]; simp)]
  ·rfl
theorem rdF_nohead {f d m : Nat} {T : Txt} (h : headP (T.drop 1) = none) : rdF f d m T = none := by
 cases f with
 | zero => unfold rdF; rfl
 | succ f =>
  unfold rdF
  split
  ·split
   ·rw [h]
   ·rfl
  ·rfl
theorem rdF_in {f d m : Nat} {T : Txt} {k : Int} {s v R : Txt} (h1 : m < 200 ∧ d ≤ 16) (h2 : begP [40] T = true) (h3 : headP (T.drop 1) = some (k, s, v, R)) : rdF (f + 1) d m T = match (if k ≤ 3 then rdL f (d + 1) (m + 1) R else some ([], m + 1, R)) with
  | none => none
  | some (l, n, R2) => if begP [41] R2 = true then some (.mk k l s v, n, R2.drop 1) else none := by
 conv => lhs; unfold rdF
 rw [if_pos h1, if_pos h2, h3]
end Go.Proofs.YtbfebljahjmjfaaGreatDoor
