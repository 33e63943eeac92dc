/- Texts of one proof, laid together: W31 W32 W33. -/
import Derived.Test.YtebocagkpkpghaaGreatDoorM86
/- entry: Text; walked. -/
namespace Go.Proofs.YtebocagkpkpghaaGreatDoor
open Go.RowKit Go.Shelf
set_option linter.unusedVariables false
set_option linter.unusedSimpArgs false
set_option maxRecDepth 100000

theorem cat_val (a b : Txt) : ((⟨a.toArray⟩ : ByteArray) ++ ⟨b.toArray⟩) = ⟨(a ++ b).toArray⟩ := by
  first | rfl | (congr 1; done) | (apply ByteArray.ext; simp)
def TexQ (p : Txt × Nat) (w : World) (e : Ending) (w' : World) : Prop := e = .returned (.tuple #[.string ⟨p.1.toArray⟩, .int .i64 (p.2 : Int)]) ∧ Keeps [] w w'
set_option maxHeartbeats 8000000 in
theorem text7_is (A : Option Addr) (n c : Nat) (l : List At7) (w : World) (h : EntIn w A n l) (hf : Few7 1000 l) (hlen : ∀ a ∈ l, a.name.length ≤ 1000000 ∧ ∀ s ∈ a.vs, s.length ≤ 1000000) (hp : PowAt w) :
    Calls Tryz.prog 25 #[.slice A n c] w (TexQ (textP (ents l)) w) := by
  have HE := Lib.hid h
  have HF0 := Lib.hid hf
  have HLE := Lib.hid hlen
  have HP0 := Lib.hid hp
  have hn : n ≤ 1000 := by rw [← h.1]; exact hf.1
  have HEL : Hid ((ents l).length = n) := by show _ = _; rw [ents_len, h.1]
  have HK0 : Hid (Keeps [] w (w.alloc (.cells #[.pointer none, .slice none 0 0] 83))) := (Keeps.refl [] w).alloc _
  have HB0 := Lib.hid (BuiT.made w)
  have HCK := Lib.hid (check7_is A n c l (w.alloc (.cells #[.pointer none, .slice none 0 0] 83)) (EntIn.grow HK0.out h) ⟨by have := hf.1; omega, fun a ha => by have := hf.2 a ha; omega⟩)
  obtain ⟨W0, hW0⟩ : ∃ W0, w.alloc (.cells #[.pointer none, .slice none 0 0] 83) = W0 := ⟨_, rfl⟩
  rw [hW0] at HK0 HB0 HCK
  obtain ⟨g, hg⟩ : ∃ g, w.heap.size = g := ⟨_, rfl⟩
  have HG : Hid (w.heap.size ≤ g) := by show _ ≤ _; omega
  rw [hg] at HB0
  have HAT : Hid (∀ a ∈ l, (attT a.att).length ≤ 1002000000) := fun a ha => by
    have h1 := lineN_len (a := a.att) (hlen a ha).1 (by show a.vs.length ≤ _; rw [(h.2.1 a ha).2.2.2.1]; exact hf.2 a ha)
    have h2 := flat_len (f := lineV) (m := 1000023) (l := a.vs) (fun s hs => lineV_len ((hlen a ha).2 s hs))
    have h3 : a.vs.length ≤ 1000 := by rw [(h.2.1 a ha).2.2.2.1]; exact hf.2 a ha
    have h4 : a.vs.length * 1000023 ≤ 1000 * 1000023 := Nat.mul_le_mul_right _ h3
    have e : attT a.att = lineN a.att ++ a.vs.flatMap lineV := rfl
    rw [e, List.length_append]
    omega
  obtain ⟨q, hq⟩ : ∃ q, entOk (ents l) = q := ⟨_, rfl⟩
  have HTP : Hid (textP (ents l) = if q = true then (textE (ents l), 0) else ([], 2)) := by show _ = _; unfold textP; rw [hq]
  rw [hq] at HCK
  rw [HTP.out]
  clear h hf hlen hp hq
  cases q
  · rw [if_neg (by decide)] at HCK ⊢
    go_enter Tryz.func25, Tryz.ntmps25
    go_wp2_with fail
    refine wp_scope_once 0 rfl ?_
    go_wp2_with fail
    refine HCK.out.mono ?_
    rintro e w1 ⟨rfl, hk1⟩
    have HK1 := Lib.hid (HK0.out.trans' hk1)
    clear hk1
    go_wp2_with fail
    go_step3
    refine ⟨rfl, ?_⟩
    go_wp2
    rw [Exit.noGoto_ret]
    refine bodyPost_ret (results_tmp2 rfl _ _ _) rfl ?_
    exact ⟨rfl, HK1.out⟩
  · rw [if_pos rfl] at HCK ⊢
    obtain ⟨tx0, htx0⟩ : ∃ tx, textE (ents l) = tx := ⟨_, rfl⟩
    have HTX0 := Lib.hid htx0
    rw [htx0]
    clear htx0
    go_enter Tryz.func25, Tryz.ntmps25
    go_wp2_with fail
    refine wp_scope_once 0 rfl ?_
    go_wp2_with fail
    refine HCK.out.mono ?_
    rintro e w1 ⟨rfl, hk1⟩
    have HK1 := Lib.hid (HK0.out.trans' hk1)
    have HB1 := Lib.hid (BuiT.keep HB0.out hk1)
    clear hk1 HCK
    go_wp2_with fail
    clear hW0 hg
    go_loopw [14] (fun i wr => ∃ j : Nat, i = .int .i64 (j : Int) ∧ j ≤ n ∧ Hid (BuiT g (textE ((ents l).take j)) wr) ∧ Hid (Keeps [] w wr)) (fun i _ => n - (intOf i).toNat)
    case atStart => exact ⟨0, rfl, Nat.zero_le _, HB1.out, HK1.out⟩
    case round =>
      obtain ⟨j, rfl, hj, HB, HKR⟩ := hrel
      by_cases hlt : j < n
      · obtain ⟨hl, hp, hc9⟩ := EntIn.grow HKR.out HE.out
        obtain ⟨b, o, hA9, hcc⟩ := hc9 (by omega)
        clear hc9
        subst hA9
        obtain ⟨a, hu⟩ : ∃ a, l[j]? = some a := ⟨_, List.getElem?_eq_getElem (by omega)⟩
        obtain ⟨c0, c1⟩ := hcc j a hu
        have hma := List.mem_of_getElem? hu
        have hfit := hp a hma
        have han := HF0.out.2 a hma
        have HLA := Lib.hid (HLE.out a hma)
        have HTN : Hid (textE ((ents l).take (j + 1)) = textE ((ents l).take j) ++ attT a.att) := flat_take (ents_at hu)
        have HTL : Hid ((textE ((ents l).take j)).length ≤ 1002000000000) := by
          have h1 := flat_len (f := attT) (m := 1002000000) (l := (ents l).take j) (fun x hx => by
            have hx := List.mem_of_mem_take hx
            unfold ents at hx
            obtain ⟨y, hy, rfl⟩ := List.mem_map.1 hx
            exact HAT.out y hy)
          have h2 : ((ents l).take j).length * 1002000000 ≤ 1000 * 1002000000 := Nat.mul_le_mul_right _ (by rw [List.length_take]; omega)
          show (textE _).length ≤ _
          unfold textE
          omega
        obtain ⟨tx, htx⟩ : ∃ tx, textE ((ents l).take j) = tx := ⟨_, rfl⟩
        rw [htx] at HTN HTL HB
        obtain ⟨nm, aA, an, ac, avs⟩ := a
        obtain ⟨hnm, hnc, hac, hV⟩ := hfit
        dsimp only at c0 c1 hnm hV hnc hac han HLA
        have HVI := Lib.hid hV
        have HVW : Hid (StrsIn w aA an avs) := (HE.out.2.1 _ hma).2.2.2
        unfold tv at c0
        have hji : (j : Int) < (n : Int) := by omega
        have hb4 := heap_new8 wr (.cells #[.string ⟨nm.toArray⟩, .slice aA an ac] 59)
        have HK4 : Hid (Keeps [] wr (wr.alloc (.cells #[.string ⟨nm.toArray⟩, .slice aA an ac] 59))) := (Keeps.refl [] wr).alloc _
        obtain ⟨w4, hw4⟩ : ∃ w4, wr.alloc (.cells #[.string ⟨nm.toArray⟩, .slice aA an ac] 59) = w4 := ⟨_, rfl⟩
        rw [hw4] at HK4 hb4
        obtain ⟨gb, hgb⟩ : ∃ gb, wr.heap.size = gb := ⟨_, rfl⟩
        have hgg : gb ≠ g := by
          have h9 : g < wr.heap.size := by
            rcases HB.out.1 with h9 | h9 <;> exact lt_of_heap h9.2.choose_spec.1
          omega
        rw [hgb] at hb4
        have HF : Hid (∀ X, Keeps [] w4 X → X.cell? ⟨gb, 0, none⟩ = some (.string ⟨nm.toArray⟩) ∧ X.cell? ⟨gb, 1, none⟩ = some (.slice aA an ac)) := fun X hX => (blk2 (blk_keep hb4 hX (by simp))).1
        have HFB : Hid (∀ X Y, Keeps [] w4 X → Beside g X Y → Y.cell? ⟨gb, 0, none⟩ = some (.string ⟨nm.toArray⟩) ∧ Y.cell? ⟨gb, 1, none⟩ = some (.slice aA an ac)) := fun X Y hX hY => (blk2 (hY.blk (blk_keep hb4 hX (by simp)) hgg (by decide))).1
        have HPW : Hid (∀ X, Keeps [] w4 X → PowAt X) := fun X hX => HP0.out.keep (HKR.out.trans' (HK4.out.trans' hX))
        have HBU : Hid (∀ X, Keeps [] w4 X → BuiT g tx X) := fun X hX => HB.out.keep (HK4.out.trans' hX)
        have han9 : an ≤ 9223372036854775807 := by omega
        have hdl := digits_len an han9
        obtain ⟨dg, hdg⟩ : ∃ dg, Lib.decDigits an = dg := ⟨_, rfl⟩
        have hnl := HLA.out.1
        have HC1 := Lib.hid (cat_val nm [32])
        have HD1 : Hid (¬ 9223372036854775807 < nm.length + 1) := by show ¬ _; omega
        obtain ⟨x1, hx1⟩ : ∃ x, nm ++ [32] = x := ⟨_, rfl⟩
        have hl1 : x1.length = nm.length + 1 := by rw [← hx1]; simp
        rw [hdg] at hdl
        have HC2 := Lib.hid (cat_val x1 dg)
        have HD2 : Hid (¬ 9223372036854775807 < x1.length + dg.length) := by show ¬ _; omega
        obtain ⟨x2, hx2⟩ : ∃ x, x1 ++ dg = x := ⟨_, rfl⟩
        have hl2 : x2.length = nm.length + 1 + dg.length := by rw [← hx2, List.length_append]; omega
        have HC3 := Lib.hid (cat_val x2 [10])
        have HD3 : Hid (¬ 9223372036854775807 < x2.length + 1) := by show ¬ _; omega
        obtain ⟨x3, hx3⟩ : ∃ x, x2 ++ [10] = x := ⟨_, rfl⟩
        have hl3 : x3.length = nm.length + 2 + dg.length := by rw [← hx3, List.length_append]; simp; omega
        have HX3 : Hid (lineN (nm, avs) = x3) := by
          show _ = _
          rw [← hx3, ← hx2, ← hx1, ← hdg]
          unfold lineN
          dsimp only
          rw [hV.1]
        have HLW : Hid (tx.length + x3.length ≤ 140737488355328) := by have := HTL.out; show _ ≤ _; omega
        have HIT := Lib.hid (fun X hX => itoa_is an X han9 hX)
        rw [hx1] at HC1
        rw [hx2] at HC2
        rw [hx3] at HC3
        rw [hdg] at HIT
        obtain ⟨⟨d0, d1⟩⟩ : Nonempty (w4.cell? ⟨gb, 0, none⟩ = some (.string ⟨nm.toArray⟩) ∧ w4.cell? ⟨gb, 1, none⟩ = some (.slice aA an ac)) := ⟨HF.out w4 (Keeps.refl _ _)⟩
        clear hcc hu hp hl hV hnm hnc hac htx hx1 hx2 hx3 hdl hl1 hl2 hl3 hb4 hma hnl hdg
        go_wp2_with fail
        clear hw4 hgb d0 d1
        refine wp_region_held_drew (S := (fun X => X.cell? ⟨gb, 0, none⟩ = some (.string ⟨nm.toArray⟩) ∧ X.cell? ⟨gb, 1, none⟩ = some (.slice aA an ac))) (by kernel_rfl) (HF.out _ ((Keeps.refl [] w4).drew)) ?_
        intro HS
        refine wpAnyH_take (i := 0) (v := .pointer (some ⟨gb, 0, none⟩)) rfl (by kernel_rfl) (by kernel_rfl) (by kernel_rfl) (fun _ _ _ h => h) (Or.inl ⟨by kernel_rfl, ?_⟩) HS ?_
        · intro w5 hw5
          obtain ⟨d0, d1⟩ := hw5
          go_simp
        simp only [List.getElem_toArray, List.getElem_cons_succ, List.getElem_cons_zero, Act.put, List.setIfInBounds_toArray, List.set_cons_zero, List.set_cons_succ]
        refine wpAnyH_take (i := 1) (v := .string ⟨nm.toArray⟩) rfl (by kernel_rfl) (by kernel_rfl) (by kernel_rfl) (fun _ _ _ h => h) (Or.inl ⟨by kernel_rfl, ?_⟩) HS ?_
        · intro w5 hw5
          obtain ⟨d0, d1⟩ := hw5
          go_simp
        simp only [List.getElem_toArray, List.getElem_cons_succ, List.getElem_cons_zero, Act.put, List.setIfInBounds_toArray, List.set_cons_zero, List.set_cons_succ]
        refine wpAnyH_take (i := 2) (v := .string ⟨x1.toArray⟩) rfl (by kernel_rfl) (by kernel_rfl) (by kernel_rfl) (fun _ _ _ h => h) (Or.inl ⟨by kernel_rfl, ?_⟩) HS ?_
        · intro w5 hw5
          obtain ⟨d0, d1⟩ := hw5
          go_simp
          rw [if_neg HD1.out]; exact congrArg (fun v => Result.ok (Next.value (Value.string v)) w5) HC1.out
        simp only [List.getElem_toArray, List.getElem_cons_succ, List.getElem_cons_zero, Act.put, List.setIfInBounds_toArray, List.set_cons_zero, List.set_cons_succ]
        refine wpAnyH_take (i := 3) (v := .pointer (some ⟨gb, 1, none⟩)) rfl (by kernel_rfl) (by kernel_rfl) (by kernel_rfl) (fun _ _ _ h => h) (Or.inl ⟨by kernel_rfl, ?_⟩) HS ?_
        · intro w5 hw5
          obtain ⟨d0, d1⟩ := hw5
          go_simp
        simp only [List.getElem_toArray, List.getElem_cons_succ, List.getElem_cons_zero, Act.put, List.setIfInBounds_toArray, List.set_cons_zero, List.set_cons_succ]
        refine wpAnyH_take (i := 4) (v := .slice aA an ac) rfl (by kernel_rfl) (by kernel_rfl) (by kernel_rfl) (fun _ _ _ h => h) (Or.inl ⟨by kernel_rfl, ?_⟩) HS ?_
        · intro w5 hw5
          obtain ⟨d0, d1⟩ := hw5
          go_simp
        simp only [List.getElem_toArray, List.getElem_cons_succ, List.getElem_cons_zero, Act.put, List.setIfInBounds_toArray, List.set_cons_zero, List.set_cons_succ]
        refine wpAnyH_take (i := 5) (v := .int .i64 (an : Int)) rfl (by kernel_rfl) (by kernel_rfl) (by kernel_rfl) (fun _ _ _ h => h) (Or.inl ⟨by kernel_rfl, ?_⟩) HS ?_
        · intro w5 hw5
          obtain ⟨d0, d1⟩ := hw5
          go_simp
        simp only [List.getElem_toArray, List.getElem_cons_succ, List.getElem_cons_zero, Act.put, List.setIfInBounds_toArray, List.set_cons_zero, List.set_cons_succ]
        refine wpAnyH_ready (rs := [6]) (by kernel_rfl) (by simp) ?_
        refine AllReadyH.cons rfl (fun K hK => ?_) AllReadyH.nil
        go_simp
        refine (HIT.out _ (HPW.out _ ((Keeps.refl [] w4).drew))).mono ?_
        rintro e w5 ⟨rfl, hk5⟩
        have K5 : Hid (Keeps [] w4 w5) := Keeps.trans' ((Keeps.refl [] w4).drew) hk5
        clear hk5
        refine hK.out _ _ (HF.out _ K5.out) (fun HS => ?_)
        clear hK K
        refine wpAnyH_take (i := 7) (v := .string ⟨x2.toArray⟩) rfl (by kernel_rfl) (by kernel_rfl) (by kernel_rfl) (fun _ _ _ h => h) (Or.inl ⟨by kernel_rfl, ?_⟩) HS ?_
        · intro w5 hw5
          obtain ⟨d0, d1⟩ := hw5
          go_simp
          rw [if_neg HD2.out]; exact congrArg (fun v => Result.ok (Next.value (Value.string v)) w5) HC2.out
        simp only [List.getElem_toArray, List.getElem_cons_succ, List.getElem_cons_zero, Act.put, List.setIfInBounds_toArray, List.set_cons_zero, List.set_cons_succ]
        refine wpAnyH_take (i := 8) (v := .string ⟨x3.toArray⟩) rfl (by kernel_rfl) (by kernel_rfl) (by kernel_rfl) (fun _ _ _ h => h) (Or.inl ⟨by kernel_rfl, ?_⟩) HS ?_
        · intro w5 hw5
          obtain ⟨d0, d1⟩ := hw5
          go_simp
          rw [if_neg HD3.out]; exact congrArg (fun v => Result.ok (Next.value (Value.string v)) w5) HC3.out
        simp only [List.getElem_toArray, List.getElem_cons_succ, List.getElem_cons_zero, Act.put, List.setIfInBounds_toArray, List.set_cons_zero, List.set_cons_succ]
        refine wpAnyH_ready (rs := [9]) (by kernel_rfl) (by simp) ?_
        refine AllReadyH.cons rfl (fun K hK => ?_) AllReadyH.nil
        go_simp
        refine (write_is g tx x3 w5 (HBU.out _ K5.out) HLW.out).mono ?_
        rintro e w6 ⟨⟨v6, rfl⟩, hb6, hbs6⟩
        have HB6 := Lib.hid hb6
        have HBS6 := Lib.hid hbs6
        have HF6 := HFB.out _ _ K5.out hbs6
        clear hb6 hbs6
        refine hK.out _ _ HF6 (fun HS => ?_)
        clear hK K
        refine wpAnyH_done (by kernel_rfl) ?_ _
        have HKW6 : Hid (Keeps [] w w6) := HBS6.out.keeps (HKR.out.trans' (HK4.out.trans' K5.out)) HG.out
        obtain ⟨d0, d1⟩ := HF6
        have HTX3 : Hid (tx.length + x3.length ≤ 1002003000000) := by
          have h1 := HTL.out
          have h2 := lineN_len (a := (nm, avs)) HLA.out.1 (by show avs.length ≤ _; rw [HVW.out.1]; exact han)
          rw [HX3.out] at h2
          show _ ≤ _
          omega
        clear HC1 HC2 HC3 HD1 HD2 HD3 HF HFB HPW HBU HIT HLW HS
        go_wp2_with fail
        clear d0 d1
        go_loopw [31] (fun i2 wq => ∃ k : Nat, i2 = .int .i64 (k : Int) ∧ k ≤ an ∧ Hid (BuiT g (tx ++ x3 ++ (avs.take k).flatMap lineV) wq) ∧ Hid (Keeps [] w wq)) (fun i2 _ => an - (intOf i2).toNat)
        case atStart => exact ⟨0, rfl, Nat.zero_le _, by show BuiT _ _ _; simpa using HB6.out, HKW6.out⟩
        case round =>
          obtain ⟨k, rfl, hk, HBK, HKQ⟩ := hrel
          by_cases hlk : k < an
          · obtain ⟨hl2, hp2, hc2⟩ := StrsIn.grow HKQ.out HVW.out
            obtain ⟨b2, o2, hA2, hcc2⟩ := hc2 (by omega)
            clear hc2
            subst hA2
            obtain ⟨v, hv⟩ : ∃ v, avs[k]? = some v := ⟨_, List.getElem?_eq_getElem (by omega)⟩
            have c0 := hcc2 k v hv
            have hvl := HLA.out.2 v (List.mem_of_getElem? hv)
            have HFT := Lib.hid (flat_take (f := lineV) hv)
            have HFL : Hid ((tx ++ x3 ++ (avs.take k).flatMap lineV).length ≤ 1003003100000) := by
              have h1 := flat_len (f := lineV) (m := 1000023) (l := avs.take k) (fun s hs => lineV_len (HLA.out.2 s (List.mem_of_mem_take hs)))
              have h2 : (avs.take k).length * 1000023 ≤ 1000 * 1000023 := Nat.mul_le_mul_right _ (by rw [List.length_take]; omega)
              have h3 := HTX3.out
              show List.length _ ≤ _
              rw [List.length_append, List.length_append]
              omega
            obtain ⟨ty, hty⟩ : ∃ ty, tx ++ x3 ++ (avs.take k).flatMap lineV = ty := ⟨_, rfl⟩
            rw [hty] at HBK HFL
            have HTY := Lib.hid hty
            have HIT := Lib.hid (itoa_is v.length wr (by omega) (HP0.out.keep HKQ.out))
            have hvd := digits_len v.length (by omega)
            have HLV : Hid (lineV v = Lib.decDigits v.length ++ [32] ++ v ++ [10]) := rfl
            obtain ⟨dv, hdv⟩ : ∃ d, Lib.decDigits v.length = d := ⟨_, rfl⟩
            rw [hdv] at HIT hvd HLV
            have hc1 := fun W => cat_is dv [32] (by simp; omega) W
            obtain ⟨y1, hy1⟩ : ∃ y, dv ++ [32] = y := ⟨_, rfl⟩
            have hm1 : y1.length = dv.length + 1 := by rw [← hy1]; simp
            have hc2 := fun W => cat_is y1 v (by omega) W
            obtain ⟨y2, hy2⟩ : ∃ y, y1 ++ v = y := ⟨_, rfl⟩
            have hm2 : y2.length = dv.length + 1 + v.length := by rw [← hy2, List.length_append]; omega
            have hc3 := fun W => cat_is y2 [10] (by simp; omega) W
            obtain ⟨y3, hy3⟩ : ∃ y, y2 ++ [10] = y := ⟨_, rfl⟩
            have hm3 : y3.length = dv.length + 2 + v.length := by rw [← hy3, List.length_append]; simp; omega
            rw [hy1] at hc1 HLV
            rw [hy2] at hc2 HLV
            rw [hy3] at hc3 HLV
            have HWL : Hid (ty.length + y3.length ≤ 140737488355328) := by have := HFL.out; show _ ≤ _; omega
            unfold tv at c0
            have hki : (k : Int) < (an : Int) := by omega
            have hk0 : (0 : Int) ≤ (k : Int) := by omega
            clear hcc2 hv hl2 hp2 hty hdv hvd hy1 hy2 hy3 hm1 hm2 hm3 hvl
            go_wp2_with fail
            refine HIT.out.mono ?_
            rintro e w7 ⟨rfl, hk7⟩
            have HK7 := Lib.hid hk7
            have HB7 := Lib.hid (HBK.out.keep hk7)
            clear hk7
            go_wp2_with fail
            refine (write_is g ty y3 w7 HB7.out HWL.out).mono ?_
            rintro e w8 ⟨⟨v8, rfl⟩, hb8, hs8⟩
            have HB8 : Hid (BuiT g (tx ++ x3 ++ (avs.take (k + 1)).flatMap lineV) w8) := by
              show BuiT _ _ _
              rw [HFT.out, ← List.append_assoc, HTY.out, HLV.out]
              exact hb8
            have HK8 : Hid (Keeps [] w w8) := hs8.keeps (HKQ.out.trans' HK7.out) HG.out
            clear hb8 hs8
            go_wp2_with fail
            go_roundw
            case rel => exact ⟨k + 1, by go_num, by omega, HB8.out, HK8.out⟩
            case measure => simp [intOf]; omega
          · obtain rfl : k = an := by omega
            have h9 := HBK.out
            rw [List.take_of_length_le (by rw [HVW.out.1]; exact Nat.le_refl _)] at h9
            have HB9 : Hid (BuiT g (textE ((ents l).take (j + 1))) wr) := by
              show BuiT _ _ _
              rw [HTN.out]
              have e : attT (At7.att ⟨nm, aA, k, ac, avs⟩) = x3 ++ avs.flatMap lineV := by rw [← HX3.out]; rfl
              rw [e, ← List.append_assoc]
              exact h9
            clear h9
            go_wp2_with fail
            go_roundw
            case rel => exact ⟨j + 1, by go_num, by omega, HB9.out, HKQ.out⟩
            case measure => simp [intOf]; omega
      · obtain rfl : j = n := by omega
        have h9 := HB.out
        rw [List.take_of_length_le (by rw [HEL.out]; exact Nat.le_refl _)] at h9
        have HST := Lib.hid (string_is g _ wr h9)
        have HKE : Hid (∀ X, Beside g wr X → Keeps [] w X) := fun X hX => hX.keeps HKR.out HG.out
        rw [HTX0.out] at HST
        clear h9 HTP
        go_wp2_with fail
        refine HST.out.mono ?_
        rintro e w5 ⟨rfl, hb5⟩
        have HK5 := Lib.hid (HKE.out _ hb5)
        clear hb5
        go_wp2_with fail
        simp only [Exit.jump]
        refine bodyPost_ret (results_tmp2 rfl _ _ _) rfl ?_
        exact ⟨rfl, HK5.out⟩
end Go.Proofs.YtebocagkpkpghaaGreatDoor
/- entry: what the law's known must see, as words. -/
namespace Go.Proofs.YtebocagkpkpghaaGreatDoor
open Go.RowKit Go.Shelf
set_option linter.unusedVariables false
set_option linter.unusedSimpArgs false
set_option maxRecDepth 100000

theorem ordS_eq {l m : List Txt} (hr : Rise m) (hm : ∀ x, x ∈ l ↔ x ∈ m) : ordS l = m := rise_same (ordS_is l).1 hr (fun x => ((ordS_is l).2 x).trans (hm x))
def kE0 : List Att := [([77, 97, 105, 108], [[98], [97]]), ([67, 78], [[120]])]
def kE1 : List Att := [([99, 110], [[120]]), ([109, 97, 105, 108], [[97], [98]])]
def kM : List Chg7 := [(1, [99, 110], [[121]]), (2, [99, 110], [[120]])]
def kE2 : List Att := [([99, 110], [[121]]), ([109, 97, 105, 108], [[97], [98]])]
theorem r_one (a : Txt) : Rise [a] := by simp [Rise]
theorem r_ab : Rise [[97], [98]] := by unfold Rise; decide +kernel
theorem r_xy : Rise [[120], [121]] := by unfold Rise; decide +kernel
theorem r_cm : Rise [[99, 110], [109, 97, 105, 108]] := by unfold Rise; decide +kernel
theorem ord_ba : ordS [[98], [97]] = [[97], [98]] := ordS_eq r_ab (fun x => by simp [or_comm])
theorem ord_ab : ordS [[97], [98]] = [[97], [98]] := ordS_rise r_ab
theorem ord_one (a : Txt) : ordS [a] = [a] := ordS_rise (r_one a)
theorem ord_xy : ordS [[120], [121]] = [[120], [121]] := ordS_rise r_xy
theorem ord_cm : ordS [[99, 110], [109, 97, 105, 108]] = [[99, 110], [109, 97, 105, 108]] := ordS_rise r_cm
theorem ord_mc : ordS [[109, 97, 105, 108], [99, 110]] = [[99, 110], [109, 97, 105, 108]] := ordS_eq r_cm (fun x => by simp [or_comm])
theorem ord_cmcm : ordS [[99, 110], [109, 97, 105, 108], [99, 110], [109, 97, 105, 108]] = [[99, 110], [109, 97, 105, 108]] := ordS_eq r_cm (fun x => by
  simp only [List.mem_cons, List.not_mem_nil, or_false]
  constructor
  · rintro (h | h | h | h)
    · exact .inl h
    · exact .inr h
    · exact .inl h
    · exact .inr h
  · rintro (h | h)
    · exact .inl h
    · exact .inr (.inl h))
theorem keys0 : keysE kE0 = [[99, 110], [109, 97, 105, 108]] := by
  unfold keysE
  rw [show ((kE0.map fun a => smallL a.1).filter fun k => !(gath kE0 k).isEmpty) = [[109, 97, 105, 108], [99, 110]] from by decide +kernel]
  exact ord_mc
theorem order0 : ordE kE0 = kE1 := by
  unfold ordE
  rw [keys0]
  simp only [List.map_cons, List.map_nil]
  rw [show gath kE0 [99, 110] = [[120]] from by decide +kernel, show gath kE0 [109, 97, 105, 108] = [[98], [97]] from by decide +kernel, ord_one, ord_ba]
  rfl
theorem known_order : orderP kE0 = (kE1, 0) := by
  unfold orderP
  rw [order0, if_pos (by decide +kernel), if_neg (by decide +kernel)]
theorem ok1 : entOk kE1 = true := by
  unfold entOk
  rw [show namesT kE1 = [[99, 110], [109, 97, 105, 108]] from rfl, ord_cm]
  unfold kE1 oneOk attrOk
  simp only [List.all_cons, List.all_nil, ord_one, ord_ab]
  decide +kernel
theorem ok2 : entOk kE2 = true := by
  unfold entOk
  rw [show namesT kE2 = [[99, 110], [109, 97, 105, 108]] from rfl, ord_cm]
  unfold kE2 oneOk attrOk
  simp only [List.all_cons, List.all_nil, ord_one, ord_ab]
  decide +kernel
theorem tab1 : tabE kE1 = kE1 := by
  unfold tabE keysE
  rw [show ((kE1.map fun a => smallL a.1).filter fun k => !(gath kE1 k).isEmpty) = [[99, 110], [109, 97, 105, 108]] from by decide +kernel, ord_cm]
  decide +kernel
theorem chg1 : changeT kE1 1 [99, 110] [[121]] = ([([99, 110], [[120], [121]]), ([109, 97, 105, 108], [[97], [98]])], 0) := by
  unfold changeT deedP
  rw [if_pos rfl, show cont2 kE1 [99, 110] = [[120]] from by decide +kernel]
  unfold addP
  rw [show ([[120]] ++ [[121]] : List Txt) = [[120], [121]] from rfl, ord_xy]
  decide +kernel
theorem chg2 : changeT [([99, 110], [[120], [121]]), ([109, 97, 105, 108], [[97], [98]])] 2 [99, 110] [[120]] = (kE2, 0) := by
  decide +kernel
theorem known_do : doP kE1 kM = (kE2, 0) := by
  unfold doP
  rw [ok1, if_neg (by decide), if_neg (by decide +kernel), tab1]
  unfold kM
  rw [doGo]
  rw [show ((1 : Int)).toNat = 1 from rfl, show smallL [99, 110] = [99, 110] from by decide +kernel, chg1, if_neg (by decide), doGo]
  rw [show ((2 : Int)).toNat = 2 from rfl, show smallL [99, 110] = [99, 110] from by decide +kernel, chg2, if_neg (by decide), doGo]
  unfold outE kE2
  simp only [List.map_cons, List.map_nil, ord_one, ord_ab]
theorem known_diff : diffP kE1 kE2 = ([(3, [99, 110], [[121]])], 0) := by
  unfold diffP
  rw [ok1, ok2, if_neg (by decide), show namesT kE1 ++ namesT kE2 = [[99, 110], [109, 97, 105, 108], [99, 110], [109, 97, 105, 108]] from rfl, ord_cmcm]
  decide +kernel
theorem known_text : textP kE2 = ([99, 110, 32, 49, 10, 49, 32, 121, 10, 109, 97, 105, 108, 32, 50, 10, 49, 32, 97, 10, 49, 32, 98, 10], 0) := by
  unfold textP
  rw [ok2, if_pos rfl]
  decide +kernel
end Go.Proofs.YtebocagkpkpghaaGreatDoor
/- entry: literals in memory; the law's known, walked. -/
namespace Go.Proofs.YtebocagkpkpghaaGreatDoor
open Go.RowKit Go.Shelf
set_option linter.unusedVariables false
set_option linter.unusedSimpArgs false
set_option maxRecDepth 100000

theorem strs_lit (w : World) (l : List Txt) (n : Nat) (cs : Array Value) (hc : cs = (l.map tv).toArray) (hn : l.length = n) (hm : n ≤ 1000) (ht : ∀ s ∈ l, s.length ≤ 1000) : StrsIn (w.alloc (.cells cs 9)) (some ⟨w.heap.size, 0, none⟩) n l := by
  subst hc
  have h := World.ownsRow_lit (base := w.heap.size) (e := 9) (size := 1) w (l.map tv).toArray n (Nat.le_refl _) (by unfold maxLen; omega) (by simp [hn])
  exact StrsIn.of_own (by simpa using h) hn (fun s hs => by have := ht s hs; omega)
theorem ents_lit (w : World) (l : List At7) (n : Nat) (cs : Array Value) (hc : cs = (atCells l).toArray) (hn : l.length = n) (hm : n ≤ 1000) (hf : ∀ a ∈ l, a.fits w) : EntIn (w.alloc (.cells cs 59)) (some ⟨w.heap.size, 0, none⟩) n l := by
  subst hc
  have h := World.ownsRow_lit (base := w.heap.size) (e := 59) (size := 2) w (atCells l).toArray n (Nat.le_refl _) (by unfold maxLen; omega) (by simp [atCells_len, hn])
  exact EntIn.of_own (by simpa using h) hn (fun a ha => (hf a ha).grow ((Keeps.refl [] w).alloc _))
theorem mdCells_len (l : List Mod7) : (mdCells l).length = l.length * 3 := by
  unfold mdCells
  induction l with
  | nil => rfl
  | cons p r ih => simp only [List.flatMap_cons, List.length_append, ih, List.length_cons, List.length_nil]; omega
theorem mods_lit (w : World) (l : List Mod7) (n : Nat) (cs : Array Value) (hc : cs = (mdCells l).toArray) (hn : l.length = n) (hm : n ≤ 1000) (hf : ∀ m ∈ l, m.a.fits w) : ModIn (w.alloc (.cells cs 49)) (some ⟨w.heap.size, 0, none⟩) n l := by
  subst hc
  have h := World.ownsRow_lit (base := w.heap.size) (e := 49) (size := 3) w (mdCells l).toArray n (Nat.le_refl _) (by unfold maxLen; omega) (by simp [mdCells_len, hn])
  exact ModIn.of_own (by simpa using h) hn (fun a ha => (hf a ha).grow ((Keeps.refl [] w).alloc _))
theorem few_of {L : List At7} {E : List Att} (h : ents L = E) (hv : ∀ a ∈ L, a.vs.length = a.n) (h1 : E.length ≤ 1000) (h2 : ∀ x ∈ E, x.2.length ≤ 1000) : Few7 1000 L := by
  refine ⟨by rw [← ents_len, h]; exact h1, fun a ha => ?_⟩
  rw [← hv a ha]
  exact h2 a.att (by rw [← h]; unfold ents; exact List.mem_map_of_mem ha)
theorem lens_of {L : List At7} {E : List Att} (h : ents L = E) (h2 : ∀ x ∈ E, x.1.length ≤ 1000000 ∧ ∀ s ∈ x.2, s.length ≤ 1000000) : ∀ a ∈ L, a.name.length ≤ 1000000 ∧ ∀ s ∈ a.vs, s.length ≤ 1000000 := fun a ha =>
  h2 a.att (by rw [← h]; unfold ents; exact List.mem_map_of_mem ha)

set_option maxHeartbeats 8000000 in
theorem known7_is (w : World) (hp : PowAt w) : Calls Tryz.prog 11 #[] w fun e w' => e = .returned (.bool true) ∧ Keeps [] w w' := by
  have HP := Lib.hid hp
  have HS1 := Lib.hid (strs_lit w [[98], [97]] 2 #[.string ⟨#[98]⟩, .string ⟨#[97]⟩] rfl rfl (by omega) (by simp))
  have HK1 : Hid (Keeps [] w (w.alloc (.cells #[.string ⟨#[98]⟩, .string ⟨#[97]⟩] 9))) := (Keeps.refl [] w).alloc _
  obtain ⟨W1, hW1⟩ : ∃ W1, w.alloc (.cells #[.string ⟨#[98]⟩, .string ⟨#[97]⟩] 9) = W1 := ⟨_, rfl⟩
  have hz1 : W1.heap.size = w.heap.size + 1 := by rw [← hW1]; simp
  rw [hW1] at HS1 HK1
  have HS2 := Lib.hid (strs_lit W1 [[120]] 1 #[.string ⟨#[120]⟩] rfl rfl (by omega) (by simp))
  have HK2 : Hid (Keeps [] W1 (W1.alloc (.cells #[.string ⟨#[120]⟩] 9))) := (Keeps.refl [] W1).alloc _
  obtain ⟨W2, hW2⟩ : ∃ W2, W1.alloc (.cells #[.string ⟨#[120]⟩] 9) = W2 := ⟨_, rfl⟩
  have hz2 : W2.heap.size = w.heap.size + 1 + 1 := by rw [← hW2]; simp [hz1]
  rw [hW2, hz1] at HS2
  rw [hW2] at HK2
  have HE3 := Lib.hid (ents_lit W2 [⟨[77, 97, 105, 108], some ⟨w.heap.size, 0, none⟩, 2, 2, [[98], [97]]⟩, ⟨[67, 78], some ⟨w.heap.size + 1, 0, none⟩, 1, 1, [[120]]⟩] 2 #[.string ⟨#[77, 97, 105, 108]⟩, .slice (some ⟨w.heap.size, 0, none⟩) 2 2, .string ⟨#[67, 78]⟩, .slice (some ⟨w.heap.size + 1, 0, none⟩) 1 1] rfl rfl (by omega) (fun a ha => by
    simp at ha
    rcases ha with rfl | rfl
    · exact ⟨by simp, by simp, by simp, StrsIn.grow HK2.out HS1.out⟩
    · exact ⟨by simp, by simp, by simp, HS2.out⟩))
  have HK3 : Hid (Keeps [] W2 (W2.alloc (.cells #[.string ⟨#[77, 97, 105, 108]⟩, .slice (some ⟨w.heap.size, 0, none⟩) 2 2, .string ⟨#[67, 78]⟩, .slice (some ⟨w.heap.size + 1, 0, none⟩) 1 1] 59))) := (Keeps.refl [] W2).alloc _
  obtain ⟨W3, hW3⟩ : ∃ W3, W2.alloc (.cells #[.string ⟨#[77, 97, 105, 108]⟩, .slice (some ⟨w.heap.size, 0, none⟩) 2 2, .string ⟨#[67, 78]⟩, .slice (some ⟨w.heap.size + 1, 0, none⟩) 1 1] 59) = W3 := ⟨_, rfl⟩
  rw [hW3, hz2] at HE3
  rw [hW3] at HK3
  have hOR := order_is _ 2 2 _ W3 HE3.out ⟨by simp, fun a ha => by simp at ha; rcases ha with rfl | rfl <;> simp⟩
  rw [show ents [⟨[77, 97, 105, 108], some ⟨w.heap.size, 0, none⟩, 2, 2, [[98], [97]]⟩, ⟨[67, 78], some ⟨w.heap.size + 1, 0, none⟩, 1, 1, [[120]]⟩] = kE0 from rfl, known_order] at hOR
  have HOR := Lib.hid hOR
  have HKW : Hid (Keeps [] w W3) := HK1.out.trans' (HK2.out.trans' HK3.out)
  clear hOR hp
  go_enter Tryz.func11, Tryz.ntmps11
  go_wp2_with fail
  refine HOR.out.mono ?_
  rintro e x1 ⟨A1, n1, c1, rfl, ⟨L1, hL1, hE1, _, _, hv1⟩, hk1⟩
  have HF1 := Lib.hid (few_of hL1 hv1 (by decide) (by decide))
  have HE1 := Lib.hid hE1
  have HL1 := Lib.hid hL1
  have HX1 := Lib.hid (HKW.out.trans' hk1)
  clear hL1 hE1 hv1 hk1 hW1 hW2 hW3 hz1 hz2 HOR HE3 HS1 HS2
  have HS4 := Lib.hid (strs_lit x1 [[121]] 1 #[.string ⟨#[121]⟩] rfl rfl (by omega) (by simp))
  have HK4 : Hid (Keeps [] x1 (x1.alloc (.cells #[.string ⟨#[121]⟩] 9))) := (Keeps.refl [] x1).alloc _
  obtain ⟨W4, hW4⟩ : ∃ W, x1.alloc (.cells #[.string ⟨#[121]⟩] 9) = W := ⟨_, rfl⟩
  have hz4 : W4.heap.size = x1.heap.size + 1 := by rw [← hW4]; simp
  rw [hW4] at HS4 HK4
  have HS5 := Lib.hid (strs_lit W4 [[120]] 1 #[.string ⟨#[120]⟩] rfl rfl (by omega) (by simp))
  have HK5 : Hid (Keeps [] W4 (W4.alloc (.cells #[.string ⟨#[120]⟩] 9))) := (Keeps.refl [] W4).alloc _
  obtain ⟨W5, hW5⟩ : ∃ W, W4.alloc (.cells #[.string ⟨#[120]⟩] 9) = W := ⟨_, rfl⟩
  have hz5 : W5.heap.size = x1.heap.size + 1 + 1 := by rw [← hW5]; simp [hz4]
  rw [hW5, hz4] at HS5
  rw [hW5] at HK5
  have HM6 := Lib.hid (mods_lit W5 [⟨1, ⟨[99, 110], some ⟨x1.heap.size, 0, none⟩, 1, 1, [[121]]⟩⟩, ⟨2, ⟨[99, 110], some ⟨x1.heap.size + 1, 0, none⟩, 1, 1, [[120]]⟩⟩] 2 #[.int .i64 1, .string ⟨#[99, 110]⟩, .slice (some ⟨x1.heap.size, 0, none⟩) 1 1, .int .i64 2, .string ⟨#[99, 110]⟩, .slice (some ⟨x1.heap.size + 1, 0, none⟩) 1 1] rfl rfl (by omega) (fun a ha => by
    simp at ha
    rcases ha with rfl | rfl
    · exact ⟨by simp, by simp, by simp, StrsIn.grow HK5.out HS4.out⟩
    · exact ⟨by simp, by simp, by simp, HS5.out⟩))
  have HK6 : Hid (Keeps [] W5 (W5.alloc (.cells #[.int .i64 1, .string ⟨#[99, 110]⟩, .slice (some ⟨x1.heap.size, 0, none⟩) 1 1, .int .i64 2, .string ⟨#[99, 110]⟩, .slice (some ⟨x1.heap.size + 1, 0, none⟩) 1 1] 49))) := (Keeps.refl [] W5).alloc _
  obtain ⟨W6, hW6⟩ : ∃ W, W5.alloc (.cells #[.int .i64 1, .string ⟨#[99, 110]⟩, .slice (some ⟨x1.heap.size, 0, none⟩) 1 1, .int .i64 2, .string ⟨#[99, 110]⟩, .slice (some ⟨x1.heap.size + 1, 0, none⟩) 1 1] 49) = W := ⟨_, rfl⟩
  rw [hW6, hz5] at HM6
  rw [hW6] at HK6
  have HKX : Hid (Keeps [] x1 W6) := HK4.out.trans' (HK5.out.trans' HK6.out)
  have hDO := do_is A1 n1 c1 L1 _ 2 2 _ W6 (EntIn.grow HKX.out HE1.out) HF1.out HM6.out ⟨by simp, fun a ha => by simp at ha; rcases ha with rfl | rfl <;> simp⟩
  rw [HL1.out, show modsOf [⟨1, ⟨[99, 110], some ⟨x1.heap.size, 0, none⟩, 1, 1, [[121]]⟩⟩, ⟨2, ⟨[99, 110], some ⟨x1.heap.size + 1, 0, none⟩, 1, 1, [[120]]⟩⟩] = kM from rfl, known_do] at hDO
  have HDO := Lib.hid hDO
  clear hDO
  go_wp2_with fail
  refine HDO.out.mono ?_
  rintro e x2 ⟨A2, n2, c2, rfl, ⟨L2, hL2, hE2, _, _, hv2⟩, hk2⟩
  have HF2 := Lib.hid (few_of hL2 hv2 (by decide) (by decide))
  have HE2 := Lib.hid hE2
  have HL2 := Lib.hid hL2
  have HX2 := Lib.hid (HX1.out.trans' (HKX.out.trans' hk2))
  have hDI := diff_is A1 A2 n1 c1 n2 c2 L1 L2 x2 (EntIn.grow (HKX.out.trans' hk2) HE1.out) HF1.out hE2 HF2.out
  rw [hL2, HL1.out, known_diff] at hDI
  have HDI := Lib.hid hDI
  clear hL2 hE2 hv2 hk2 hW4 hW5 hW6 hz4 hz5 HDO HM6 HS4 HS5 hDI
  go_wp2_with fail
  refine HDI.out.mono ?_
  rintro e x3 ⟨A3, n3, c3, rfl, ⟨L3, hL3, hM3, _, _, _⟩, hk3⟩
  have HX3 := Lib.hid (HX2.out.trans' hk3)
  have h31 : n3 = 1 := by
    rw [← hM3.1]
    have := congrArg List.length hL3
    unfold modsOf at this
    simpa using this
  subst h31
  obtain ⟨m, hm⟩ : ∃ m, L3[0]? = some m := ⟨_, List.getElem?_eq_getElem (by rw [hM3.1]; omega)⟩
  have hmk : m.k = 3 := by
    have h9 := mods_at hm
    rw [hL3] at h9
    simp at h9
    exact (congrArg Prod.fst h9).symm
  obtain ⟨b3, o3, hA3, hcc3⟩ := hM3.2.2 (by omega)
  subst hA3
  obtain ⟨q0, _, _⟩ := hcc3 0 m hm
  rw [hmk] at q0
  have HQ := Lib.hid q0
  have hTX := text7_is A2 n2 c2 L2 x3 (EntIn.grow hk3 HE2.out) HF2.out (lens_of HL2.out (by decide)) (HP.out.keep HX3.out)
  rw [HL2.out, known_text] at hTX
  unfold TexQ at hTX
  have HTX := Lib.hid hTX
  clear hL3 hM3 hk3 hm hmk hcc3 q0 hTX
  go_wp2_with fail
  refine HTX.out.mono ?_
  rintro e x4 ⟨rfl, hk4⟩
  have HX4 := Lib.hid (HX3.out.trans' hk4)
  have q1 := (hk4.cell (lt_of_cell HQ.out) (by simp)).trans HQ.out
  rw [show o3 + 0 * 3 = o3 from by omega] at q1
  clear hk4
  go_wp2_with fail
  go_ret
  exact ⟨by first | rfl | simp, HX4.out⟩
end Go.Proofs.YtebocagkpkpghaaGreatDoor
