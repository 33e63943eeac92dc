/- Texts of one proof, laid together: N48. -/
import Derived.Test.YtjnibkgbcgpigaaDoorM25
import Derived.Test.YtjnibkgbcgpigaaDoorM23
/- dn: the document's ends, Alike, Below; walked. -/
namespace Go.Proofs.YtjnibkgbcgpigaaDoor
open Go.RowKit Go.Shelf
set_option linter.unusedVariables false
set_option linter.unusedSimpArgs false
set_option maxRecDepth 100000

set_option maxHeartbeats 16000000 in
theorem ends_is (A B : Option Addr) (n m c c' : Nat) (a b : List Part6) (w : World) (ha : DnIn w A n a) (hb : DnIn w B m b) (hmn : m ≤ n) (hn : n ≤ 16) :
    Calls Tryd.prog 39 #[.slice A n c, .slice B m c'] w fun e w' => e = .returned (.bool (alikeR (a.drop (n - m)) b)) ∧ Keeps [] w w' := by
  have HA := Lib.hid ha
  have HB := Lib.hid hb
  obtain ⟨K, hK⟩ : ∃ K, n - m = K := ⟨_, rfl⟩
  rw [hK]
  have hnK : n = K + m := by omega
  have hsub : (n : Int) - (m : Int) = (K : Int) := by omega
  have hwK : wrap64 (K : Int) = (K : Int) := by unfold wrap64; omega
  have HNK := Lib.hid hnK
  clear ha hb hK hnK
  go_enter Tryd.func39, Tryd.ntmps39
  go_wp2_with fail
  clear hsub
  go_loopw [6] (fun i wr => ∃ j : Nat, i = .int .i64 (j : Int) ∧ j ≤ m ∧ Hid ((((a.drop K).zip b).take j).all (fun x => alikeP x.1 x.2) = true) ∧ Hid (Keeps [] w wr)) (fun i _ => m - (intOf i).toNat)
  case atStart => exact ⟨0, rfl, Nat.zero_le _, rfl, Keeps.refl _ _⟩
  case round =>
    obtain ⟨j, rfl, hj, HZ, HKR⟩ := hrel
    by_cases hlt : j < m
    · have hnK := HNK.out
      obtain ⟨hl, hp, hc9⟩ := HA.out.grow HKR.out
      obtain ⟨b1, o1, hA9, hcc⟩ := hc9 (by omega)
      obtain ⟨hl2, hp2, hc8⟩ := HB.out.grow HKR.out
      obtain ⟨b2, o2, hB9, hcd⟩ := hc8 (by omega)
      clear hc9 hc8
      subst hA9 hB9
      obtain ⟨p, hu⟩ : ∃ p, a[K + j]? = some p := ⟨_, List.getElem?_eq_getElem (by omega)⟩
      obtain ⟨q, hu2⟩ : ∃ q, b[j]? = some q := ⟨_, List.getElem?_eq_getElem (by omega)⟩
      obtain ⟨c0, c1⟩ := hcc (K + j) p hu
      obtain ⟨c2, c3⟩ := hcd j q hu2
      have hpp := hp p (List.mem_of_getElem? hu)
      have hqq := hp2 q (List.mem_of_getElem? hu2)
      have hud : (a.drop K)[j]? = some p := by rw [List.getElem?_drop]; exact hu
      have HT := Lib.hid (zip_take hud hu2)
      have HC := Lib.hid (fun h => zip_cut hud hu2 h)
      obtain ⟨r, hr⟩ : ∃ r, alikeP p q = r := ⟨_, rfl⟩
      rw [hr] at HT HC
      unfold alikeP at hr
      obtain ⟨s, v⟩ := p
      obtain ⟨s', v'⟩ := q
      dsimp only at c0 c1 c2 c3 hr hpp hqq
      unfold tv at c0 c1 c2 c3
      obtain ⟨kj, hkj0⟩ : ∃ kj, K + j = kj := ⟨_, rfl⟩
      rw [hkj0] at c0 c1
      have hkj : (K : Int) + (j : Int) = (kj : Int) := by omega
      have hjj : (j : Int) < (m : Int) := by omega
      have hkl : (kj : Int) < (n : Int) := by omega
      have hk0 : 0 ≤ (kj : Int) := by omega
      have hj0 : 0 ≤ (j : Int) := by omega
      have hik : IntKind.i64.wrap (kj : Int) = (kj : Int) := IntWalk.i64_in _ (by omega)
      have hwkj : wrap64 (kj : Int) = (kj : Int) := by unfold wrap64; omega
      have HS1 := Lib.hid (fun X => rsmall_is v X hpp.2)
      have HS2 := Lib.hid (fun X => rsmall_is v' X hqq.2)
      clear hcc hcd hu hu2 hud hp hp2 hl hl2 hpp hqq hkj0 hnK
      by_cases he : s = s'
      · subst he
        have HF : Hid (∀ X, Keeps [] wr X → (X.cell? ⟨b1, o1 + kj * 2, none⟩ = some (.string ⟨s.toArray⟩) ∧ X.cell? ⟨b1, o1 + kj * 2 + 1, none⟩ = some (.string ⟨v.toArray⟩)) ∧ (X.cell? ⟨b2, o2 + j * 2, none⟩ = some (.string ⟨s.toArray⟩) ∧ X.cell? ⟨b2, o2 + j * 2 + 1, none⟩ = some (.string ⟨v'.toArray⟩))) := fun X hk => ⟨⟨(hk.cell (lt_of_cell c0) (by simp)).trans c0, (hk.cell (lt_of_cell c1) (by simp)).trans c1⟩, ⟨(hk.cell (lt_of_cell c2) (by simp)).trans c2, (hk.cell (lt_of_cell c3) (by simp)).trans c3⟩⟩
        obtain ⟨z, hz⟩ : ∃ z, smallL v = z := ⟨_, rfl⟩
        obtain ⟨z', hz'⟩ : ∃ z', smallL v' = z' := ⟨_, rfl⟩
        rw [hz] at HS1 hr
        rw [hz'] at HS2 hr
        have hr2 : (z == z') = r := by rw [← hr]; simp
        clear hr hz hz'
        go_wp2_with fail
        refine wp_region_held_drew (S := (fun X => (X.cell? ⟨b1, o1 + kj * 2, none⟩ = some (.string ⟨s.toArray⟩) ∧ X.cell? ⟨b1, o1 + kj * 2 + 1, none⟩ = some (.string ⟨v.toArray⟩)) ∧ (X.cell? ⟨b2, o2 + j * 2, none⟩ = some (.string ⟨s.toArray⟩) ∧ X.cell? ⟨b2, o2 + j * 2 + 1, none⟩ = some (.string ⟨v'.toArray⟩)))) (by kernel_rfl) (HF.out _ ((Keeps.refl [] wr).drew)) ?_
        intro HS
        refine wpAnyH_take (i := 0) (v := .slice (some ⟨b1, o1, none⟩) n c) rfl (by kernel_rfl) (by kernel_rfl) (by kernel_rfl) (fun _ _ _ h => h) (Or.inl ⟨by kernel_rfl, ?_⟩) HS ?_
        · intro w5 hw5
          obtain ⟨⟨d0, d1⟩, ⟨d2, d3⟩⟩ := hw5
          go_simp
        simp only [Act.put, List.setIfInBounds_toArray, List.set_cons_zero, List.set_cons_succ]
        refine wpAnyH_take (i := 1) (v := .int .i64 (K : Int)) rfl (by kernel_rfl) (by kernel_rfl) (by kernel_rfl) (fun _ _ _ h => h) (Or.inl ⟨by kernel_rfl, ?_⟩) HS ?_
        · intro w5 hw5
          obtain ⟨⟨d0, d1⟩, ⟨d2, d3⟩⟩ := hw5
          go_simp
        simp only [Act.put, List.setIfInBounds_toArray, List.set_cons_zero, List.set_cons_succ]
        refine wpAnyH_take (i := 2) (v := .int .i64 (j : Int)) rfl (by kernel_rfl) (by kernel_rfl) (by kernel_rfl) (fun _ _ _ h => h) (Or.inl ⟨by kernel_rfl, ?_⟩) HS ?_
        · intro w5 hw5
          obtain ⟨⟨d0, d1⟩, ⟨d2, d3⟩⟩ := hw5
          go_simp
        simp only [Act.put, List.setIfInBounds_toArray, List.set_cons_zero, List.set_cons_succ]
        refine wpAnyH_take (i := 3) (v := .int .i64 (kj : Int)) rfl (by kernel_rfl) (by kernel_rfl) (by kernel_rfl) (fun _ _ _ h => h) (Or.inl ⟨by kernel_rfl, ?_⟩) HS ?_
        · intro w5 hw5
          obtain ⟨⟨d0, d1⟩, ⟨d2, d3⟩⟩ := hw5
          go_simp
          first | done | exact hik
        simp only [Act.put, List.setIfInBounds_toArray, List.set_cons_zero, List.set_cons_succ]
        refine wpAnyH_take (i := 4) (v := .pointer (some ⟨b1, o1 + kj * 2, none⟩)) rfl (by kernel_rfl) (by kernel_rfl) (by kernel_rfl) (fun _ _ _ h => h) (Or.inl ⟨by kernel_rfl, ?_⟩) HS ?_
        · intro w5 hw5
          obtain ⟨⟨d0, d1⟩, ⟨d2, d3⟩⟩ := hw5
          go_simp
        simp only [Act.put, List.setIfInBounds_toArray, List.set_cons_zero, List.set_cons_succ]
        refine wpAnyH_take (i := 5) (v := .pointer (some ⟨b1, o1 + kj * 2, none⟩)) rfl (by kernel_rfl) (by kernel_rfl) (by kernel_rfl) (fun _ _ _ h => h) (Or.inl ⟨by kernel_rfl, ?_⟩) HS ?_
        · intro w5 hw5
          obtain ⟨⟨d0, d1⟩, ⟨d2, d3⟩⟩ := hw5
          go_simp
        simp only [Act.put, List.setIfInBounds_toArray, List.set_cons_zero, List.set_cons_succ]
        refine wpAnyH_take (i := 6) (v := .string ⟨s.toArray⟩) rfl (by kernel_rfl) (by kernel_rfl) (by kernel_rfl) (fun _ _ _ h => h) (Or.inl ⟨by kernel_rfl, ?_⟩) HS ?_
        · intro w5 hw5
          obtain ⟨⟨d0, d1⟩, ⟨d2, d3⟩⟩ := hw5
          go_simp
        simp only [Act.put, List.setIfInBounds_toArray, List.set_cons_zero, List.set_cons_succ]
        refine wpAnyH_take (i := 7) (v := .slice (some ⟨b2, o2, none⟩) m c') rfl (by kernel_rfl) (by kernel_rfl) (by kernel_rfl) (fun _ _ _ h => h) (Or.inl ⟨by kernel_rfl, ?_⟩) HS ?_
        · intro w5 hw5
          obtain ⟨⟨d0, d1⟩, ⟨d2, d3⟩⟩ := hw5
          go_simp
        simp only [Act.put, List.setIfInBounds_toArray, List.set_cons_zero, List.set_cons_succ]
        refine wpAnyH_take (i := 8) (v := .int .i64 (j : Int)) rfl (by kernel_rfl) (by kernel_rfl) (by kernel_rfl) (fun _ _ _ h => h) (Or.inl ⟨by kernel_rfl, ?_⟩) HS ?_
        · intro w5 hw5
          obtain ⟨⟨d0, d1⟩, ⟨d2, d3⟩⟩ := hw5
          go_simp
        simp only [Act.put, List.setIfInBounds_toArray, List.set_cons_zero, List.set_cons_succ]
        refine wpAnyH_take (i := 9) (v := .pointer (some ⟨b2, o2 + j * 2, none⟩)) rfl (by kernel_rfl) (by kernel_rfl) (by kernel_rfl) (fun _ _ _ h => h) (Or.inl ⟨by kernel_rfl, ?_⟩) HS ?_
        · intro w5 hw5
          obtain ⟨⟨d0, d1⟩, ⟨d2, d3⟩⟩ := hw5
          go_simp
        simp only [Act.put, List.setIfInBounds_toArray, List.set_cons_zero, List.set_cons_succ]
        refine wpAnyH_take (i := 10) (v := .pointer (some ⟨b2, o2 + j * 2, none⟩)) rfl (by kernel_rfl) (by kernel_rfl) (by kernel_rfl) (fun _ _ _ h => h) (Or.inl ⟨by kernel_rfl, ?_⟩) HS ?_
        · intro w5 hw5
          obtain ⟨⟨d0, d1⟩, ⟨d2, d3⟩⟩ := hw5
          go_simp
        simp only [Act.put, List.setIfInBounds_toArray, List.set_cons_zero, List.set_cons_succ]
        refine wpAnyH_take (i := 11) (v := .string ⟨s.toArray⟩) rfl (by kernel_rfl) (by kernel_rfl) (by kernel_rfl) (fun _ _ _ h => h) (Or.inl ⟨by kernel_rfl, ?_⟩) HS ?_
        · intro w5 hw5
          obtain ⟨⟨d0, d1⟩, ⟨d2, d3⟩⟩ := hw5
          go_simp
        simp only [Act.put, List.setIfInBounds_toArray, List.set_cons_zero, List.set_cons_succ]
        refine wpAnyH_take (i := 12) (v := .bool false) rfl (by kernel_rfl) (by kernel_rfl) (by kernel_rfl) (fun _ _ _ h => h) (Or.inl ⟨by kernel_rfl, ?_⟩) HS ?_
        · intro w5 hw5
          obtain ⟨⟨d0, d1⟩, ⟨d2, d3⟩⟩ := hw5
          go_simp
        simp only [Act.put, List.setIfInBounds_toArray, List.set_cons_zero, List.set_cons_succ]
        refine wpAnyH_take (i := 13) (v := .bool false) rfl (by kernel_rfl) (by kernel_rfl) (by kernel_rfl) (fun _ _ _ h => h) (Or.inl ⟨by kernel_rfl, ?_⟩) HS ?_
        · intro w5 hw5
          obtain ⟨⟨d0, d1⟩, ⟨d2, d3⟩⟩ := hw5
          go_simp
        simp only [Act.put, List.setIfInBounds_toArray, List.set_cons_zero, List.set_cons_succ]
        refine wpAnyH_take (i := 14) (v := .slice (some ⟨b1, o1, none⟩) n c) rfl (by kernel_rfl) (by kernel_rfl) (by kernel_rfl) (fun _ _ _ h => h) (Or.inl ⟨by kernel_rfl, ?_⟩) HS ?_
        · intro w5 hw5
          obtain ⟨⟨d0, d1⟩, ⟨d2, d3⟩⟩ := hw5
          go_simp
        simp only [Act.put, List.setIfInBounds_toArray, List.set_cons_zero, List.set_cons_succ]
        refine wpAnyH_take (i := 15) (v := .int .i64 (K : Int)) rfl (by kernel_rfl) (by kernel_rfl) (by kernel_rfl) (fun _ _ _ h => h) (Or.inl ⟨by kernel_rfl, ?_⟩) HS ?_
        · intro w5 hw5
          obtain ⟨⟨d0, d1⟩, ⟨d2, d3⟩⟩ := hw5
          go_simp
        simp only [Act.put, List.setIfInBounds_toArray, List.set_cons_zero, List.set_cons_succ]
        refine wpAnyH_take (i := 16) (v := .int .i64 (j : Int)) rfl (by kernel_rfl) (by kernel_rfl) (by kernel_rfl) (fun _ _ _ h => h) (Or.inl ⟨by kernel_rfl, ?_⟩) HS ?_
        · intro w5 hw5
          obtain ⟨⟨d0, d1⟩, ⟨d2, d3⟩⟩ := hw5
          go_simp
        simp only [Act.put, List.setIfInBounds_toArray, List.set_cons_zero, List.set_cons_succ]
        refine wpAnyH_take (i := 17) (v := .int .i64 (kj : Int)) rfl (by kernel_rfl) (by kernel_rfl) (by kernel_rfl) (fun _ _ _ h => h) (Or.inl ⟨by kernel_rfl, ?_⟩) HS ?_
        · intro w5 hw5
          obtain ⟨⟨d0, d1⟩, ⟨d2, d3⟩⟩ := hw5
          go_simp
          first | done | exact hik
        simp only [Act.put, List.setIfInBounds_toArray, List.set_cons_zero, List.set_cons_succ]
        refine wpAnyH_take (i := 18) (v := .pointer (some ⟨b1, o1 + kj * 2, none⟩)) rfl (by kernel_rfl) (by kernel_rfl) (by kernel_rfl) (fun _ _ _ h => h) (Or.inl ⟨by kernel_rfl, ?_⟩) HS ?_
        · intro w5 hw5
          obtain ⟨⟨d0, d1⟩, ⟨d2, d3⟩⟩ := hw5
          go_simp
        simp only [Act.put, List.setIfInBounds_toArray, List.set_cons_zero, List.set_cons_succ]
        refine wpAnyH_take (i := 19) (v := .pointer (some ⟨b1, o1 + kj * 2 + 1, none⟩)) rfl (by kernel_rfl) (by kernel_rfl) (by kernel_rfl) (fun _ _ _ h => h) (Or.inl ⟨by kernel_rfl, ?_⟩) HS ?_
        · intro w5 hw5
          obtain ⟨⟨d0, d1⟩, ⟨d2, d3⟩⟩ := hw5
          go_simp
        simp only [Act.put, List.setIfInBounds_toArray, List.set_cons_zero, List.set_cons_succ]
        refine wpAnyH_take (i := 20) (v := .string ⟨v.toArray⟩) rfl (by kernel_rfl) (by kernel_rfl) (by kernel_rfl) (fun _ _ _ h => h) (Or.inl ⟨by kernel_rfl, ?_⟩) HS ?_
        · intro w5 hw5
          obtain ⟨⟨d0, d1⟩, ⟨d2, d3⟩⟩ := hw5
          go_simp
        simp only [Act.put, List.setIfInBounds_toArray, List.set_cons_zero, List.set_cons_succ]
        refine wpAnyH_take (i := 22) (v := .slice (some ⟨b2, o2, none⟩) m c') rfl (by kernel_rfl) (by kernel_rfl) (by kernel_rfl) (fun _ _ _ h => h) (Or.inl ⟨by kernel_rfl, ?_⟩) HS ?_
        · intro w5 hw5
          obtain ⟨⟨d0, d1⟩, ⟨d2, d3⟩⟩ := hw5
          go_simp
        simp only [Act.put, List.setIfInBounds_toArray, List.set_cons_zero, List.set_cons_succ]
        refine wpAnyH_take (i := 23) (v := .int .i64 (j : Int)) rfl (by kernel_rfl) (by kernel_rfl) (by kernel_rfl) (fun _ _ _ h => h) (Or.inl ⟨by kernel_rfl, ?_⟩) HS ?_
        · intro w5 hw5
          obtain ⟨⟨d0, d1⟩, ⟨d2, d3⟩⟩ := hw5
          go_simp
        simp only [Act.put, List.setIfInBounds_toArray, List.set_cons_zero, List.set_cons_succ]
        refine wpAnyH_take (i := 24) (v := .pointer (some ⟨b2, o2 + j * 2, none⟩)) rfl (by kernel_rfl) (by kernel_rfl) (by kernel_rfl) (fun _ _ _ h => h) (Or.inl ⟨by kernel_rfl, ?_⟩) HS ?_
        · intro w5 hw5
          obtain ⟨⟨d0, d1⟩, ⟨d2, d3⟩⟩ := hw5
          go_simp
        simp only [Act.put, List.setIfInBounds_toArray, List.set_cons_zero, List.set_cons_succ]
        refine wpAnyH_take (i := 25) (v := .pointer (some ⟨b2, o2 + j * 2 + 1, none⟩)) rfl (by kernel_rfl) (by kernel_rfl) (by kernel_rfl) (fun _ _ _ h => h) (Or.inl ⟨by kernel_rfl, ?_⟩) HS ?_
        · intro w5 hw5
          obtain ⟨⟨d0, d1⟩, ⟨d2, d3⟩⟩ := hw5
          go_simp
        simp only [Act.put, List.setIfInBounds_toArray, List.set_cons_zero, List.set_cons_succ]
        refine wpAnyH_take (i := 26) (v := .string ⟨v'.toArray⟩) rfl (by kernel_rfl) (by kernel_rfl) (by kernel_rfl) (fun _ _ _ h => h) (Or.inl ⟨by kernel_rfl, ?_⟩) HS ?_
        · intro w5 hw5
          obtain ⟨⟨d0, d1⟩, ⟨d2, d3⟩⟩ := hw5
          go_simp
        simp only [Act.put, List.setIfInBounds_toArray, List.set_cons_zero, List.set_cons_succ]
        refine wpAnyH_ready (rs := [21]) (by kernel_rfl) (by simp) ?_
        refine AllReadyH.cons rfl (fun KK hK => ?_) AllReadyH.nil
        go_simp
        refine (HS1.out _).mono ?_
        rintro e w1 ⟨rfl, hk1⟩
        have K1 : Hid (Keeps [] wr w1) := Keeps.trans' ((Keeps.refl [] wr).drew) hk1
        clear hk1
        refine hK.out _ _ (HF.out _ K1.out) (fun HS => ?_)
        clear hK
        refine wpAnyH_ready (rs := [27]) (by kernel_rfl) (by simp) ?_
        refine AllReadyH.cons rfl (fun KK hK => ?_) AllReadyH.nil
        go_simp
        refine (HS2.out _).mono ?_
        rintro e w2 ⟨rfl, hk2⟩
        have K2 : Hid (Keeps [] wr w2) := K1.out.trans' hk2
        clear hk2
        refine hK.out _ _ (HF.out _ K2.out) (fun HS => ?_)
        clear hK
        refine wpAnyH_take (i := 28) (v := .bool (!r)) rfl (by kernel_rfl) (by kernel_rfl) (by kernel_rfl) (fun _ _ _ h => h) (Or.inl ⟨by kernel_rfl, ?_⟩) HS ?_
        · intro w5 hw5
          obtain ⟨⟨d0, d1⟩, ⟨d2, d3⟩⟩ := hw5
          go_simp
          first | done | exact hr2
        simp only [Act.put, List.setIfInBounds_toArray, List.set_cons_zero, List.set_cons_succ]
        refine wpAnyH_take (i := 29) (v := .bool (!r)) rfl (by kernel_rfl) (by kernel_rfl) (by kernel_rfl) (fun _ _ _ h => h) (Or.inl ⟨by kernel_rfl, ?_⟩) HS ?_
        · intro w5 hw5
          obtain ⟨⟨d0, d1⟩, ⟨d2, d3⟩⟩ := hw5
          go_simp
        simp only [Act.put, List.setIfInBounds_toArray, List.set_cons_zero, List.set_cons_succ]
        refine wpAnyH_done (by kernel_rfl) ?_ _
        clear hr2
        cases r
        · go_wp2_with fail
          go_ret
          exact ⟨by rw [HC.out (by first | exact trivial | rfl)]; rfl, HKR.out.trans' K2.out⟩
        · go_wp2_with fail
          go_roundw
          case rel => exact ⟨j + 1, by go_num, by omega, by show _ = _; rw [HT.out, HZ.out]; rfl, HKR.out.trans' K2.out⟩
          case measure => simp [intOf]; omega
      · have hne : (s == s') = false := by simpa using he
        obtain rfl : r = false := by rw [← hr, hne]; rfl
        have hnb := str_beq s s' false hne
        clear hr
        go_wp2_with fail
        go_quiet (fail)
        go_wp2_with fail
        go_ret
        exact ⟨by rw [HC.out (by first | exact trivial | rfl)]; rfl, HKR.out.drewN _⟩
    · obtain rfl : j = m := by omega
      have h9 := HZ.out
      rw [List.take_of_length_le (by have := HNK.out; rw [List.length_zip, List.length_drop, HA.out.1, HB.out.1]; omega)] at h9
      have H9 : Hid (alikeR (a.drop K) b = true) := h9
      clear h9
      go_wp2_with fail
      go_ret
      exact ⟨by rw [H9.out]; rfl, HKR.out⟩

end Go.Proofs.YtjnibkgbcgpigaaDoor
