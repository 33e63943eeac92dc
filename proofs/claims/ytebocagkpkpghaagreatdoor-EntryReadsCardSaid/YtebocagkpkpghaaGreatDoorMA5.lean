/- Texts of one proof, laid together: Y12. -/
import Derived.Test.YtebocagkpkpghaaGreatDoorMA4
import Derived.Test.YtebocagkpkpghaaGreatDoorM87
import Derived.BigQuiet
/- entry: the document's Text; walked. -/
namespace Go.Proofs.YtebocagkpkpghaaGreatDoor
open Go.RowKit Go.Shelf
set_option linter.unusedVariables false
set_option linter.unusedSimpArgs false
set_option maxRecDepth 100000

set_option maxHeartbeats 16000000 in
theorem rtext_is (A : Option Addr) (n c : Nat) (l : List At7) (w : World) (h : EntIn w A n l) (hf : Few7 1000 l) (hlen : ∀ a ∈ l, a.name.length ≤ 1000000 ∧ ∀ s ∈ a.vs, s.length ≤ 1000000) :
    Calls Tryz.prog 27 #[.slice A n c] w fun e w' => e = .returned (tv (textE (ents l))) ∧ Keeps [] w w' := by
  have HE := Lib.hid h
  have HF0 := Lib.hid hf
  have HLE := Lib.hid hlen
  have hn : n ≤ 1000 := by rw [← h.1]; exact hf.1
  have HEL : Hid ((ents l).length = n) := by show _ = _; rw [ents_len, h.1]
  clear h hf hlen
  unfold tv
  go_enter Tryz.func27, Tryz.ntmps27
  go_wp2_with fail
  go_loopw [3, 4] (fun d i wr => ∃ (j : Nat) (tx : Txt), d = .string ⟨tx.toArray⟩ ∧ i = .int .i64 (j : Int) ∧ j ≤ n ∧ tx.length ≤ j * 1002000000 ∧ Hid (textE ((ents l).take j) = tx) ∧ Hid (Keeps [] w wr)) (fun _ i _ => n - (intOf i).toNat)
  case atStart => exact ⟨0, [], rfl, rfl, Nat.zero_le _, by simp, rfl, Keeps.refl _ _⟩
  case round =>
    obtain ⟨j, tx, rfl, rfl, hj, htl, HX, HKR⟩ := hrel
    by_cases hlt : j < n
    · obtain ⟨hl, hp, hc9⟩ := EntIn.grow HKR.out HE.out
      obtain ⟨b, o, hA9, hcc⟩ := hc9 (by omega)
      clear hc9
      subst hA9
      obtain ⟨a, hu⟩ : ∃ a, l[j]? = some a := ⟨_, List.getElem?_eq_getElem (by omega)⟩
      obtain ⟨c0, c1⟩ := hcc j a hu
      have hma := List.mem_of_getElem? hu
      have hfit := hp a hma
      have han := HF0.out.2 a hma
      have HLA := Lib.hid (HLE.out a hma)
      have HTN : Hid (textE ((ents l).take (j + 1)) = tx ++ attT a.att) := by
        rw [← HX.out]
        exact flat_take (ents_at hu)
      obtain ⟨nm, aA, an, ac, avs⟩ := a
      obtain ⟨hnm, hnc, hac, hV⟩ := hfit
      dsimp only at c0 c1 hnm hV hnc hac han HLA
      have HVI := Lib.hid hV
      have hVl : avs.length = an := hV.1
      unfold tv at c0
      have hji : (j : Int) < (n : Int) := by omega
      have hj0 : (0 : Int) ≤ (j : Int) := by omega
      have hnl := HLA.out.1
      have htl9 : j * 1002000000 ≤ 1000 * 1002000000 := Nat.mul_le_mul_right _ (by omega)
      have HF : Hid (∀ X, Keeps [] wr X → X.cell? ⟨b, o + j * 2, none⟩ = some (.string ⟨nm.toArray⟩) ∧ X.cell? ⟨b, o + j * 2 + 1, none⟩ = some (.slice aA an ac)) := fun X hX => ⟨(hX.cell (lt_of_cell c0) (by simp)).trans c0, (hX.cell (lt_of_cell c1) (by simp)).trans c1⟩
      have hdl := digits_len an (by omega)
      have HNU := Lib.hid (fun X => rnumt_is an X (by omega))
      rw [show Lib.itoa (an : Int) = Lib.decDigits an by unfold Lib.itoa; rw [if_neg (by omega)]; simp] at HNU
      have hln : lineN (nm, avs) = nm ++ [32] ++ Lib.decDigits an ++ [10] := by unfold lineN; dsimp only; rw [hVl]
      obtain ⟨dg, hdg⟩ : ∃ dg, Lib.decDigits an = dg := ⟨_, rfl⟩
      rw [hdg] at hdl HNU hln
      unfold tv at HNU
      have HC1 := Lib.hid (cat_val tx nm)
      have HD1 : Hid (¬ 9223372036854775807 < tx.length + nm.length) := by show ¬ _; omega
      obtain ⟨y1, hy1⟩ : ∃ x, tx ++ nm = x := ⟨_, rfl⟩
      have ly1 : y1.length = tx.length + nm.length := by rw [← hy1, List.length_append]; try simp
      rw [hy1] at HC1
      have HC2 := Lib.hid (cat_val y1 [32])
      have HD2 : Hid (¬ 9223372036854775807 < y1.length + 1) := by show ¬ _; omega
      obtain ⟨y2, hy2⟩ : ∃ x, y1 ++ [32] = x := ⟨_, rfl⟩
      have ly2 : y2.length = y1.length + 1 := by rw [← hy2, List.length_append]; try simp
      rw [hy2] at HC2
      have HC3 := Lib.hid (cat_val y2 dg)
      have HD3 : Hid (¬ 9223372036854775807 < y2.length + dg.length) := by show ¬ _; omega
      obtain ⟨y3, hy3⟩ : ∃ x, y2 ++ dg = x := ⟨_, rfl⟩
      have ly3 : y3.length = y2.length + dg.length := by rw [← hy3, List.length_append]; try simp
      rw [hy3] at HC3
      have HC4 := Lib.hid (cat_val y3 [10])
      have HD4 : Hid (¬ 9223372036854775807 < y3.length + 1) := by show ¬ _; omega
      obtain ⟨y4, hy4⟩ : ∃ x, y3 ++ [10] = x := ⟨_, rfl⟩
      have ly4 : y4.length = y3.length + 1 := by rw [← hy4, List.length_append]; try simp
      rw [hy4] at HC4
      have HY4 : Hid (textE ((ents l).take (j + 1)) = y4 ++ avs.flatMap lineV) := by
        show _ = _
        rw [HTN.out, ← hy4, ← hy3, ← hy2, ← hy1]
        unfold attT At7.att
        dsimp only
        rw [hln]
        simp
      have hy4l : y4.length ≤ j * 1002000000 + 1000100 := by omega
      clear hcc hu hp hl hV hnm hnc hac hma hdl hdg hln HTN hnl hy1 hy2 hy3 hy4 ly1 ly2 ly3 ly4
      go_wp2_with fail
      refine wp_region_held_drew (S := (fun X => X.cell? ⟨b, o + j * 2, none⟩ = some (.string ⟨nm.toArray⟩) ∧ X.cell? ⟨b, o + j * 2 + 1, none⟩ = some (.slice aA an ac))) (by kernel_rfl) (HF.out _ ((Keeps.refl [] wr).drew)) ?_
      intro HS
      refine wpAnyH_take (i := 0) (v := .string ⟨tx.toArray⟩) rfl (by kernel_rfl) (by kernel_rfl) (by kernel_rfl) (fun _ _ _ h => h) (Or.inl ⟨by kernel_rfl, ?_⟩) HS ?_
      · intro w5 hw5
        obtain ⟨d0, d1⟩ := hw5
        go_simp
      simp only [List.getElem_toArray, List.getElem_cons_succ, List.getElem_cons_zero, Act.put, List.setIfInBounds_toArray, List.set_cons_zero, List.set_cons_succ]
      refine wpAnyH_take (i := 1) (v := .slice (some ⟨b, o, none⟩) n c) rfl (by kernel_rfl) (by kernel_rfl) (by kernel_rfl) (fun _ _ _ h => h) (Or.inl ⟨by kernel_rfl, ?_⟩) HS ?_
      · intro w5 hw5
        obtain ⟨d0, d1⟩ := hw5
        go_simp
      simp only [List.getElem_toArray, List.getElem_cons_succ, List.getElem_cons_zero, Act.put, List.setIfInBounds_toArray, List.set_cons_zero, List.set_cons_succ]
      refine wpAnyH_take (i := 2) (v := .int .i64 (j : Int)) rfl (by kernel_rfl) (by kernel_rfl) (by kernel_rfl) (fun _ _ _ h => h) (Or.inl ⟨by kernel_rfl, ?_⟩) HS ?_
      · intro w5 hw5
        obtain ⟨d0, d1⟩ := hw5
        go_simp
      simp only [List.getElem_toArray, List.getElem_cons_succ, List.getElem_cons_zero, Act.put, List.setIfInBounds_toArray, List.set_cons_zero, List.set_cons_succ]
      refine wpAnyH_take (i := 3) (v := .pointer (some ⟨b, o + j * 2, none⟩)) rfl (by kernel_rfl) (by kernel_rfl) (by kernel_rfl) (fun _ _ _ h => h) (Or.inl ⟨by kernel_rfl, ?_⟩) HS ?_
      · intro w5 hw5
        obtain ⟨d0, d1⟩ := hw5
        go_simp
      simp only [List.getElem_toArray, List.getElem_cons_succ, List.getElem_cons_zero, Act.put, List.setIfInBounds_toArray, List.set_cons_zero, List.set_cons_succ]
      refine wpAnyH_take (i := 4) (v := .pointer (some ⟨b, o + j * 2, none⟩)) rfl (by kernel_rfl) (by kernel_rfl) (by kernel_rfl) (fun _ _ _ h => h) (Or.inl ⟨by kernel_rfl, ?_⟩) HS ?_
      · intro w5 hw5
        obtain ⟨d0, d1⟩ := hw5
        go_simp
      simp only [List.getElem_toArray, List.getElem_cons_succ, List.getElem_cons_zero, Act.put, List.setIfInBounds_toArray, List.set_cons_zero, List.set_cons_succ]
      refine wpAnyH_take (i := 5) (v := .string ⟨nm.toArray⟩) rfl (by kernel_rfl) (by kernel_rfl) (by kernel_rfl) (fun _ _ _ h => h) (Or.inl ⟨by kernel_rfl, ?_⟩) HS ?_
      · intro w5 hw5
        obtain ⟨d0, d1⟩ := hw5
        go_simp
      simp only [List.getElem_toArray, List.getElem_cons_succ, List.getElem_cons_zero, Act.put, List.setIfInBounds_toArray, List.set_cons_zero, List.set_cons_succ]
      refine wpAnyH_take (i := 6) (v := .string ⟨y1.toArray⟩) rfl (by kernel_rfl) (by kernel_rfl) (by kernel_rfl) (fun _ _ _ h => h) (Or.inl ⟨by kernel_rfl, ?_⟩) HS ?_
      · intro w5 hw5
        obtain ⟨d0, d1⟩ := hw5
        go_simp
        rw [if_neg HD1.out]; exact congrArg (fun v => Result.ok (Next.value (Value.string v)) w5) HC1.out
      simp only [List.getElem_toArray, List.getElem_cons_succ, List.getElem_cons_zero, Act.put, List.setIfInBounds_toArray, List.set_cons_zero, List.set_cons_succ]
      refine wpAnyH_take (i := 7) (v := .string ⟨y2.toArray⟩) rfl (by kernel_rfl) (by kernel_rfl) (by kernel_rfl) (fun _ _ _ h => h) (Or.inl ⟨by kernel_rfl, ?_⟩) HS ?_
      · intro w5 hw5
        obtain ⟨d0, d1⟩ := hw5
        go_simp
        rw [if_neg HD2.out]; exact congrArg (fun v => Result.ok (Next.value (Value.string v)) w5) HC2.out
      simp only [List.getElem_toArray, List.getElem_cons_succ, List.getElem_cons_zero, Act.put, List.setIfInBounds_toArray, List.set_cons_zero, List.set_cons_succ]
      refine wpAnyH_take (i := 8) (v := .slice (some ⟨b, o, none⟩) n c) rfl (by kernel_rfl) (by kernel_rfl) (by kernel_rfl) (fun _ _ _ h => h) (Or.inl ⟨by kernel_rfl, ?_⟩) HS ?_
      · intro w5 hw5
        obtain ⟨d0, d1⟩ := hw5
        go_simp
      simp only [List.getElem_toArray, List.getElem_cons_succ, List.getElem_cons_zero, Act.put, List.setIfInBounds_toArray, List.set_cons_zero, List.set_cons_succ]
      refine wpAnyH_take (i := 9) (v := .int .i64 (j : Int)) rfl (by kernel_rfl) (by kernel_rfl) (by kernel_rfl) (fun _ _ _ h => h) (Or.inl ⟨by kernel_rfl, ?_⟩) HS ?_
      · intro w5 hw5
        obtain ⟨d0, d1⟩ := hw5
        go_simp
      simp only [List.getElem_toArray, List.getElem_cons_succ, List.getElem_cons_zero, Act.put, List.setIfInBounds_toArray, List.set_cons_zero, List.set_cons_succ]
      refine wpAnyH_take (i := 10) (v := .pointer (some ⟨b, o + j * 2, none⟩)) rfl (by kernel_rfl) (by kernel_rfl) (by kernel_rfl) (fun _ _ _ h => h) (Or.inl ⟨by kernel_rfl, ?_⟩) HS ?_
      · intro w5 hw5
        obtain ⟨d0, d1⟩ := hw5
        go_simp
      simp only [List.getElem_toArray, List.getElem_cons_succ, List.getElem_cons_zero, Act.put, List.setIfInBounds_toArray, List.set_cons_zero, List.set_cons_succ]
      refine wpAnyH_take (i := 11) (v := .pointer (some ⟨b, o + j * 2 + 1, none⟩)) rfl (by kernel_rfl) (by kernel_rfl) (by kernel_rfl) (fun _ _ _ h => h) (Or.inl ⟨by kernel_rfl, ?_⟩) HS ?_
      · intro w5 hw5
        obtain ⟨d0, d1⟩ := hw5
        go_simp
      simp only [List.getElem_toArray, List.getElem_cons_succ, List.getElem_cons_zero, Act.put, List.setIfInBounds_toArray, List.set_cons_zero, List.set_cons_succ]
      refine wpAnyH_take (i := 12) (v := .slice aA an ac) rfl (by kernel_rfl) (by kernel_rfl) (by kernel_rfl) (fun _ _ _ h => h) (Or.inl ⟨by kernel_rfl, ?_⟩) HS ?_
      · intro w5 hw5
        obtain ⟨d0, d1⟩ := hw5
        go_simp
      simp only [List.getElem_toArray, List.getElem_cons_succ, List.getElem_cons_zero, Act.put, List.setIfInBounds_toArray, List.set_cons_zero, List.set_cons_succ]
      refine wpAnyH_take (i := 13) (v := .int .i64 (an : Int)) rfl (by kernel_rfl) (by kernel_rfl) (by kernel_rfl) (fun _ _ _ h => h) (Or.inl ⟨by kernel_rfl, ?_⟩) HS ?_
      · intro w5 hw5
        obtain ⟨d0, d1⟩ := hw5
        go_simp
      simp only [List.getElem_toArray, List.getElem_cons_succ, List.getElem_cons_zero, Act.put, List.setIfInBounds_toArray, List.set_cons_zero, List.set_cons_succ]
      refine wpAnyH_ready (rs := [14]) (by kernel_rfl) (by simp) ?_
      refine AllReadyH.cons rfl (fun K hK => ?_) AllReadyH.nil
      go_simp
      refine (HNU.out _).mono ?_
      rintro e w6 ⟨rfl, hk6⟩
      have HK6 := Lib.hid (((Keeps.refl [] wr).drew).trans' hk6)
      clear hk6
      refine hK.out _ _ (HF.out _ HK6.out) (fun HS => ?_)
      clear hK K
      refine wpAnyH_take (i := 15) (v := .string ⟨y3.toArray⟩) rfl (by kernel_rfl) (by kernel_rfl) (by kernel_rfl) (fun _ _ _ h => h) (Or.inl ⟨by kernel_rfl, ?_⟩) HS ?_
      · intro w5 hw5
        obtain ⟨d0, d1⟩ := hw5
        go_simp
        rw [if_neg HD3.out]; exact congrArg (fun v => Result.ok (Next.value (Value.string v)) w5) HC3.out
      simp only [List.getElem_toArray, List.getElem_cons_succ, List.getElem_cons_zero, Act.put, List.setIfInBounds_toArray, List.set_cons_zero, List.set_cons_succ]
      refine wpAnyH_take (i := 16) (v := .string ⟨y4.toArray⟩) rfl (by kernel_rfl) (by kernel_rfl) (by kernel_rfl) (fun _ _ _ h => h) (Or.inl ⟨by kernel_rfl, ?_⟩) HS ?_
      · intro w5 hw5
        obtain ⟨d0, d1⟩ := hw5
        go_simp
        rw [if_neg HD4.out]; exact congrArg (fun v => Result.ok (Next.value (Value.string v)) w5) HC4.out
      simp only [List.getElem_toArray, List.getElem_cons_succ, List.getElem_cons_zero, Act.put, List.setIfInBounds_toArray, List.set_cons_zero, List.set_cons_succ]
      refine wpAnyH_take (i := 17) (v := .string ⟨y4.toArray⟩) rfl (by kernel_rfl) (by kernel_rfl) (by kernel_rfl) (fun _ _ _ h => h) (Or.inl ⟨by kernel_rfl, ?_⟩) HS ?_
      · intro w5 hw5
        obtain ⟨d0, d1⟩ := hw5
        go_simp
      simp only [List.getElem_toArray, List.getElem_cons_succ, List.getElem_cons_zero, Act.put, List.setIfInBounds_toArray, List.set_cons_zero, List.set_cons_succ]
      refine wpAnyH_done (by kernel_rfl) ?_ _
      clear HS HC1 HC2 HC3 HC4 HD1 HD2 HD3 HD4 c0 c1
      go_wp2_with fail
      obtain ⟨V, hV⟩ : ∃ V : World, V = wr := ⟨_, rfl⟩
      subst hV
      go_loopw [3, 5] (fun d i wq => ∃ (k : Nat) (tx2 : Txt), d = .string ⟨tx2.toArray⟩ ∧ i = .int .i64 (k : Int) ∧ k ≤ an ∧ tx2.length ≤ j * 1002000000 + 1000100 + k * 1000100 ∧ Hid (y4 ++ (avs.take k).flatMap lineV = tx2) ∧ Hid (Keeps [] V wq)) (fun _ i _ => an - (intOf i).toNat)
      case atStart => exact ⟨0, y4, rfl, rfl, Nat.zero_le _, by omega, by simp [Hid], HK6.out⟩
      case round =>
        obtain ⟨k, tx2, rfl, rfl, hk, htl2, HX2, HKQ⟩ := hrel
        have hk9 : k * 1000100 ≤ 1000 * 1000100 := Nat.mul_le_mul_right _ (by omega)
        obtain ⟨c0, c1⟩ := HF.out _ HKQ.out
        by_cases hlk : k < an
        · obtain ⟨hv1, hv2, hv3⟩ := StrsIn.grow HKQ.out HVI.out
          obtain ⟨b2, o2, hB2, hcd⟩ := hv3 (by omega)
          clear hv3
          subst hB2
          obtain ⟨v, hv⟩ : ∃ v, avs[k]? = some v := ⟨_, List.getElem?_eq_getElem (by omega)⟩
          have c2 := hcd k v hv
          have hvl := HLA.out.2 v (List.mem_of_getElem? hv)
          have HFT := Lib.hid (flat_take (f := lineV) hv)
          unfold tv at c2
          obtain ⟨vn, hvn⟩ : ∃ m, v.length = m := ⟨_, rfl⟩
          have hvs : (⟨v.toArray⟩ : ByteArray).size = vn := hvn
          have hki : (k : Int) < (an : Int) := by omega
          have hk0 : (0 : Int) ≤ (k : Int) := by omega
          have HG : Hid (∀ X, Keeps [] wr X → X.cell? ⟨b, o + j * 2 + 1, none⟩ = some (.slice (some ⟨b2, o2, none⟩) an ac) ∧ X.cell? ⟨b2, o2 + k, none⟩ = some (.string ⟨v.toArray⟩)) := fun X hX => ⟨(hX.cell (lt_of_cell c1) (by simp)).trans c1, (hX.cell (lt_of_cell c2) (by simp)).trans c2⟩
          have hdl := digits_len vn (by omega)
          have HNV := Lib.hid (fun X => rnumt_is vn X (by omega))
          rw [show Lib.itoa (vn : Int) = Lib.decDigits vn by unfold Lib.itoa; rw [if_neg (by omega)]; simp] at HNV
          have hln : lineV v = Lib.decDigits vn ++ [32] ++ v ++ [10] := by unfold lineV; rw [hvn]
          obtain ⟨dg, hdg⟩ : ∃ dg, Lib.decDigits vn = dg := ⟨_, rfl⟩
          rw [hdg] at hdl HNV hln
          unfold tv at HNV
          have HC5 := Lib.hid (cat_val tx2 dg)
          have HD5 : Hid (¬ 9223372036854775807 < tx2.length + dg.length) := by show ¬ _; omega
          obtain ⟨z1, hz1⟩ : ∃ x, tx2 ++ dg = x := ⟨_, rfl⟩
          have lz1 : z1.length = tx2.length + dg.length := by rw [← hz1, List.length_append]; try simp
          rw [hz1] at HC5
          have HC6 := Lib.hid (cat_val z1 [32])
          have HD6 : Hid (¬ 9223372036854775807 < z1.length + 1) := by show ¬ _; omega
          obtain ⟨z2, hz2⟩ : ∃ x, z1 ++ [32] = x := ⟨_, rfl⟩
          have lz2 : z2.length = z1.length + 1 := by rw [← hz2, List.length_append]; try simp
          rw [hz2] at HC6
          have HC7 := Lib.hid (cat_val z2 v)
          have HD7 : Hid (¬ 9223372036854775807 < z2.length + vn) := by show ¬ _; omega
          obtain ⟨z3, hz3⟩ : ∃ x, z2 ++ v = x := ⟨_, rfl⟩
          have lz3 : z3.length = z2.length + vn := by rw [← hz3, List.length_append]; try simp; try exact hvn
          rw [hz3] at HC7
          have HC8 := Lib.hid (cat_val z3 [10])
          have HD8 : Hid (¬ 9223372036854775807 < z3.length + 1) := by show ¬ _; omega
          obtain ⟨z4, hz4⟩ : ∃ x, z3 ++ [10] = x := ⟨_, rfl⟩
          have lz4 : z4.length = z3.length + 1 := by rw [← hz4, List.length_append]; try simp
          rw [hz4] at HC8
          have HZ4 : Hid (y4 ++ (avs.take (k + 1)).flatMap lineV = z4) := by
            show _ = _
            rw [HFT.out, ← hz4, ← hz3, ← hz2, ← hz1, ← HX2.out, hln]
            simp
          have hz4l : z4.length ≤ j * 1002000000 + 1000100 + (k + 1) * 1000100 := by omega
          clear hcd hv hv1 hv2 hvl hdl hdg hln hvn HFT hz1 hz2 hz3 hz4 lz1 lz2 lz3 lz4 c0
          go_wp2_with fail
          refine wp_region_held_drew (S := (fun X => X.cell? ⟨b, o + j * 2 + 1, none⟩ = some (.slice (some ⟨b2, o2, none⟩) an ac) ∧ X.cell? ⟨b2, o2 + k, none⟩ = some (.string ⟨v.toArray⟩))) (by kernel_rfl) (HG.out _ ((Keeps.refl [] wr).drew)) ?_
          intro HS
          refine wpAnyH_take (i := 0) (v := .string ⟨tx2.toArray⟩) rfl (by kernel_rfl) (by kernel_rfl) (by kernel_rfl) (fun _ _ _ h => h) (Or.inl ⟨by kernel_rfl, ?_⟩) HS ?_
          · intro w5 hw5
            obtain ⟨d1, d2⟩ := hw5
            go_simp
          simp only [List.getElem_toArray, List.getElem_cons_succ, List.getElem_cons_zero, Act.put, List.setIfInBounds_toArray, List.set_cons_zero, List.set_cons_succ]
          refine wpAnyH_take (i := 1) (v := .slice (some ⟨b, o, none⟩) n c) rfl (by kernel_rfl) (by kernel_rfl) (by kernel_rfl) (fun _ _ _ h => h) (Or.inl ⟨by kernel_rfl, ?_⟩) HS ?_
          · intro w5 hw5
            obtain ⟨d1, d2⟩ := hw5
            go_simp
          simp only [List.getElem_toArray, List.getElem_cons_succ, List.getElem_cons_zero, Act.put, List.setIfInBounds_toArray, List.set_cons_zero, List.set_cons_succ]
          refine wpAnyH_take (i := 2) (v := .int .i64 (j : Int)) rfl (by kernel_rfl) (by kernel_rfl) (by kernel_rfl) (fun _ _ _ h => h) (Or.inl ⟨by kernel_rfl, ?_⟩) HS ?_
          · intro w5 hw5
            obtain ⟨d1, d2⟩ := hw5
            go_simp
          simp only [List.getElem_toArray, List.getElem_cons_succ, List.getElem_cons_zero, Act.put, List.setIfInBounds_toArray, List.set_cons_zero, List.set_cons_succ]
          refine wpAnyH_take (i := 3) (v := .pointer (some ⟨b, o + j * 2, none⟩)) rfl (by kernel_rfl) (by kernel_rfl) (by kernel_rfl) (fun _ _ _ h => h) (Or.inl ⟨by kernel_rfl, ?_⟩) HS ?_
          · intro w5 hw5
            obtain ⟨d1, d2⟩ := hw5
            go_simp
          simp only [List.getElem_toArray, List.getElem_cons_succ, List.getElem_cons_zero, Act.put, List.setIfInBounds_toArray, List.set_cons_zero, List.set_cons_succ]
          refine wpAnyH_take (i := 4) (v := .pointer (some ⟨b, o + j * 2 + 1, none⟩)) rfl (by kernel_rfl) (by kernel_rfl) (by kernel_rfl) (fun _ _ _ h => h) (Or.inl ⟨by kernel_rfl, ?_⟩) HS ?_
          · intro w5 hw5
            obtain ⟨d1, d2⟩ := hw5
            go_simp
          simp only [List.getElem_toArray, List.getElem_cons_succ, List.getElem_cons_zero, Act.put, List.setIfInBounds_toArray, List.set_cons_zero, List.set_cons_succ]
          refine wpAnyH_take (i := 5) (v := .slice (some ⟨b2, o2, none⟩) an ac) rfl (by kernel_rfl) (by kernel_rfl) (by kernel_rfl) (fun _ _ _ h => h) (Or.inl ⟨by kernel_rfl, ?_⟩) HS ?_
          · intro w5 hw5
            obtain ⟨d1, d2⟩ := hw5
            go_simp
          simp only [List.getElem_toArray, List.getElem_cons_succ, List.getElem_cons_zero, Act.put, List.setIfInBounds_toArray, List.set_cons_zero, List.set_cons_succ]
          refine wpAnyH_take (i := 6) (v := .int .i64 (k : Int)) rfl (by kernel_rfl) (by kernel_rfl) (by kernel_rfl) (fun _ _ _ h => h) (Or.inl ⟨by kernel_rfl, ?_⟩) HS ?_
          · intro w5 hw5
            obtain ⟨d1, d2⟩ := hw5
            go_simp
          simp only [List.getElem_toArray, List.getElem_cons_succ, List.getElem_cons_zero, Act.put, List.setIfInBounds_toArray, List.set_cons_zero, List.set_cons_succ]
          refine wpAnyH_take (i := 7) (v := .pointer (some ⟨b2, o2 + k, none⟩)) rfl (by kernel_rfl) (by kernel_rfl) (by kernel_rfl) (fun _ _ _ h => h) (Or.inl ⟨by kernel_rfl, ?_⟩) HS ?_
          · intro w5 hw5
            obtain ⟨d1, d2⟩ := hw5
            go_simp
          simp only [List.getElem_toArray, List.getElem_cons_succ, List.getElem_cons_zero, Act.put, List.setIfInBounds_toArray, List.set_cons_zero, List.set_cons_succ]
          refine wpAnyH_take (i := 8) (v := .string ⟨v.toArray⟩) rfl (by kernel_rfl) (by kernel_rfl) (by kernel_rfl) (fun _ _ _ h => h) (Or.inl ⟨by kernel_rfl, ?_⟩) HS ?_
          · intro w5 hw5
            obtain ⟨d1, d2⟩ := hw5
            go_simp
          simp only [List.getElem_toArray, List.getElem_cons_succ, List.getElem_cons_zero, Act.put, List.setIfInBounds_toArray, List.set_cons_zero, List.set_cons_succ]
          refine wpAnyH_take (i := 9) (v := .int .i64 (vn : Int)) rfl (by kernel_rfl) (by kernel_rfl) (by kernel_rfl) (fun _ _ _ h => h) (Or.inl ⟨by kernel_rfl, ?_⟩) HS ?_
          · intro w5 hw5
            obtain ⟨d1, d2⟩ := hw5
            go_simp
          simp only [List.getElem_toArray, List.getElem_cons_succ, List.getElem_cons_zero, Act.put, List.setIfInBounds_toArray, List.set_cons_zero, List.set_cons_succ]
          refine wpAnyH_take (i := 13) (v := .slice (some ⟨b, o, none⟩) n c) rfl (by kernel_rfl) (by kernel_rfl) (by kernel_rfl) (fun _ _ _ h => h) (Or.inl ⟨by kernel_rfl, ?_⟩) HS ?_
          · intro w5 hw5
            obtain ⟨d1, d2⟩ := hw5
            go_simp
          simp only [List.getElem_toArray, List.getElem_cons_succ, List.getElem_cons_zero, Act.put, List.setIfInBounds_toArray, List.set_cons_zero, List.set_cons_succ]
          refine wpAnyH_take (i := 14) (v := .int .i64 (j : Int)) rfl (by kernel_rfl) (by kernel_rfl) (by kernel_rfl) (fun _ _ _ h => h) (Or.inl ⟨by kernel_rfl, ?_⟩) HS ?_
          · intro w5 hw5
            obtain ⟨d1, d2⟩ := hw5
            go_simp
          simp only [List.getElem_toArray, List.getElem_cons_succ, List.getElem_cons_zero, Act.put, List.setIfInBounds_toArray, List.set_cons_zero, List.set_cons_succ]
          refine wpAnyH_take (i := 15) (v := .pointer (some ⟨b, o + j * 2, none⟩)) rfl (by kernel_rfl) (by kernel_rfl) (by kernel_rfl) (fun _ _ _ h => h) (Or.inl ⟨by kernel_rfl, ?_⟩) HS ?_
          · intro w5 hw5
            obtain ⟨d1, d2⟩ := hw5
            go_simp
          simp only [List.getElem_toArray, List.getElem_cons_succ, List.getElem_cons_zero, Act.put, List.setIfInBounds_toArray, List.set_cons_zero, List.set_cons_succ]
          refine wpAnyH_take (i := 16) (v := .pointer (some ⟨b, o + j * 2 + 1, none⟩)) rfl (by kernel_rfl) (by kernel_rfl) (by kernel_rfl) (fun _ _ _ h => h) (Or.inl ⟨by kernel_rfl, ?_⟩) HS ?_
          · intro w5 hw5
            obtain ⟨d1, d2⟩ := hw5
            go_simp
          simp only [List.getElem_toArray, List.getElem_cons_succ, List.getElem_cons_zero, Act.put, List.setIfInBounds_toArray, List.set_cons_zero, List.set_cons_succ]
          refine wpAnyH_take (i := 17) (v := .slice (some ⟨b2, o2, none⟩) an ac) rfl (by kernel_rfl) (by kernel_rfl) (by kernel_rfl) (fun _ _ _ h => h) (Or.inl ⟨by kernel_rfl, ?_⟩) HS ?_
          · intro w5 hw5
            obtain ⟨d1, d2⟩ := hw5
            go_simp
          simp only [List.getElem_toArray, List.getElem_cons_succ, List.getElem_cons_zero, Act.put, List.setIfInBounds_toArray, List.set_cons_zero, List.set_cons_succ]
          refine wpAnyH_take (i := 18) (v := .int .i64 (k : Int)) rfl (by kernel_rfl) (by kernel_rfl) (by kernel_rfl) (fun _ _ _ h => h) (Or.inl ⟨by kernel_rfl, ?_⟩) HS ?_
          · intro w5 hw5
            obtain ⟨d1, d2⟩ := hw5
            go_simp
          simp only [List.getElem_toArray, List.getElem_cons_succ, List.getElem_cons_zero, Act.put, List.setIfInBounds_toArray, List.set_cons_zero, List.set_cons_succ]
          refine wpAnyH_take (i := 19) (v := .pointer (some ⟨b2, o2 + k, none⟩)) rfl (by kernel_rfl) (by kernel_rfl) (by kernel_rfl) (fun _ _ _ h => h) (Or.inl ⟨by kernel_rfl, ?_⟩) HS ?_
          · intro w5 hw5
            obtain ⟨d1, d2⟩ := hw5
            go_simp
          simp only [List.getElem_toArray, List.getElem_cons_succ, List.getElem_cons_zero, Act.put, List.setIfInBounds_toArray, List.set_cons_zero, List.set_cons_succ]
          refine wpAnyH_take (i := 20) (v := .string ⟨v.toArray⟩) rfl (by kernel_rfl) (by kernel_rfl) (by kernel_rfl) (fun _ _ _ h => h) (Or.inl ⟨by kernel_rfl, ?_⟩) HS ?_
          · intro w5 hw5
            obtain ⟨d1, d2⟩ := hw5
            go_simp
          simp only [List.getElem_toArray, List.getElem_cons_succ, List.getElem_cons_zero, Act.put, List.setIfInBounds_toArray, List.set_cons_zero, List.set_cons_succ]
          refine wpAnyH_ready (rs := [10]) (by kernel_rfl) (by simp) ?_
          refine AllReadyH.cons rfl (fun K hK => ?_) AllReadyH.nil
          go_simp
          refine (HNV.out _).mono ?_
          rintro e w7 ⟨rfl, hk7⟩
          have HK7 := Lib.hid (((Keeps.refl [] wr).drew).trans' hk7)
          clear hk7
          refine hK.out _ _ (HG.out _ HK7.out) (fun HS => ?_)
          clear hK K
          refine wpAnyH_take (i := 11) (v := .string ⟨z1.toArray⟩) rfl (by kernel_rfl) (by kernel_rfl) (by kernel_rfl) (fun _ _ _ h => h) (Or.inl ⟨by kernel_rfl, ?_⟩) HS ?_
          · intro w5 hw5
            obtain ⟨d1, d2⟩ := hw5
            go_simp
            rw [if_neg HD5.out]; exact congrArg (fun v => Result.ok (Next.value (Value.string v)) w5) HC5.out
          simp only [List.getElem_toArray, List.getElem_cons_succ, List.getElem_cons_zero, Act.put, List.setIfInBounds_toArray, List.set_cons_zero, List.set_cons_succ]
          refine wpAnyH_take (i := 12) (v := .string ⟨z2.toArray⟩) rfl (by kernel_rfl) (by kernel_rfl) (by kernel_rfl) (fun _ _ _ h => h) (Or.inl ⟨by kernel_rfl, ?_⟩) HS ?_
          · intro w5 hw5
            obtain ⟨d1, d2⟩ := hw5
            go_simp
            rw [if_neg HD6.out]; exact congrArg (fun v => Result.ok (Next.value (Value.string v)) w5) HC6.out
          simp only [List.getElem_toArray, List.getElem_cons_succ, List.getElem_cons_zero, Act.put, List.setIfInBounds_toArray, List.set_cons_zero, List.set_cons_succ]
          refine wpAnyH_take (i := 21) (v := .string ⟨z3.toArray⟩) rfl (by kernel_rfl) (by kernel_rfl) (by kernel_rfl) (fun _ _ _ h => h) (Or.inl ⟨by kernel_rfl, ?_⟩) HS ?_
          · intro w5 hw5
            obtain ⟨d1, d2⟩ := hw5
            go_simp
            rw [if_neg HD7.out]; exact congrArg (fun v => Result.ok (Next.value (Value.string v)) w5) HC7.out
          simp only [List.getElem_toArray, List.getElem_cons_succ, List.getElem_cons_zero, Act.put, List.setIfInBounds_toArray, List.set_cons_zero, List.set_cons_succ]
          refine wpAnyH_take (i := 22) (v := .string ⟨z4.toArray⟩) rfl (by kernel_rfl) (by kernel_rfl) (by kernel_rfl) (fun _ _ _ h => h) (Or.inl ⟨by kernel_rfl, ?_⟩) HS ?_
          · intro w5 hw5
            obtain ⟨d1, d2⟩ := hw5
            go_simp
            rw [if_neg HD8.out]; exact congrArg (fun v => Result.ok (Next.value (Value.string v)) w5) HC8.out
          simp only [List.getElem_toArray, List.getElem_cons_succ, List.getElem_cons_zero, Act.put, List.setIfInBounds_toArray, List.set_cons_zero, List.set_cons_succ]
          refine wpAnyH_take (i := 23) (v := .string ⟨z4.toArray⟩) rfl (by kernel_rfl) (by kernel_rfl) (by kernel_rfl) (fun _ _ _ h => h) (Or.inl ⟨by kernel_rfl, ?_⟩) HS ?_
          · intro w5 hw5
            obtain ⟨d1, d2⟩ := hw5
            go_simp
          simp only [List.getElem_toArray, List.getElem_cons_succ, List.getElem_cons_zero, Act.put, List.setIfInBounds_toArray, List.set_cons_zero, List.set_cons_succ]
          refine wpAnyH_done (by kernel_rfl) ?_ _
          clear HS
          go_wp2_with fail
          go_roundw
          case rel => exact ⟨k + 1, z4, rfl, by go_num, by omega, hz4l, HZ4.out, HKQ.out.trans' HK7.out⟩
          case measure => simp [intOf]; omega
        · obtain rfl : k = an := by omega
          have h9 := HX2.out
          rw [List.take_of_length_le (by rw [hVl]; exact Nat.le_refl _), ← HY4.out] at h9
          have HZ := Lib.hid h9
          clear h9
          go_wp2_with fail
          go_roundw
          case rel => exact ⟨j + 1, tx2, rfl, by go_num, by omega, by omega, HZ.out, HKR.out.trans' HKQ.out⟩
          case measure => simp [intOf]; omega
    · obtain rfl : j = n := by omega
      have h9 := HX.out
      rw [List.take_of_length_le (by rw [HEL.out]; exact Nat.le_refl _)] at h9
      have HZ := Lib.hid h9
      clear h9
      go_wp2_with fail
      go_ret
      rw [HZ.out]
      exact ⟨rfl, HKR.out⟩
end Go.Proofs.YtebocagkpkpghaaGreatDoor
