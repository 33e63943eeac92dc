/- Texts of one proof, laid together: X17 X18. -/
import Derived.Test.YtfjlcfbomlfpfaaGreatDoorM85
import Derived.Test.YtfjlcfbomlfpfaaGreatDoorM82
import Derived.BigQuiet
import Derived.Test.YtfjlcfbomlfpfaaGreatDoorM91
import Derived.Test.YtfjlcfbomlfpfaaGreatDoorM83
/- entry: the document's SameMods; walked. -/
namespace Go.Proofs.YtfjlcfbomlfpfaaGreatDoor
open Go.RowKit Go.Shelf
set_option linter.unusedVariables false
set_option linter.unusedSimpArgs false
set_option maxRecDepth 100000

theorem modsOf_len (l : List Mod7) : (modsOf l).length = l.length := by simp [modsOf]
set_option maxHeartbeats 16000000 in
theorem rsamemods_is (A B : Option Addr) (n c m d : Nat) (l k : List Mod7) (w : World) (h : ModIn w A n l) (h2 : ModIn w B m k) (hf : FewM 100000 l) :
    Calls Tryz.prog 23 #[.slice A n c, .slice B m d] w fun e w' => e = .returned (.bool (modsOf l == modsOf k)) ∧ Keeps [] w w' := by
  have HE1 := Lib.hid h
  have HE2 := Lib.hid h2
  have HF9 := Lib.hid hf
  have hn : n ≤ 100000 := by rw [← h.1]; exact hf.1
  have HL1 : Hid ((modsOf l).length = n) := by show _ = _; rw [modsOf_len, h.1]
  have HL2 : Hid ((modsOf k).length = m) := by show _ = _; rw [modsOf_len, h2.1]
  clear h h2 hf
  by_cases hnm : n = m
  · subst hnm
    go_enter Tryz.func23, Tryz.ntmps23
    go_wp2_with fail
    go_loopw [5] (fun i wr => ∃ j : Nat, i = .int .i64 (j : Int) ∧ j ≤ n ∧ Hid ((modsOf l).take j = (modsOf k).take j) ∧ Hid (Keeps [] w wr)) (fun i _ => n - (intOf i).toNat)
    case atStart => exact ⟨0, rfl, Nat.zero_le _, by simp [Hid], Keeps.refl _ _⟩
    case round =>
      obtain ⟨j, rfl, hj, HA, HKR⟩ := hrel
      by_cases hlt : j < n
      · obtain ⟨hl1, hp1, hc1⟩ := ModIn.grow HKR.out HE1.out
        obtain ⟨b1, o1, hA1, hcc1⟩ := hc1 (by omega)
        obtain ⟨hl2, hp2, hc2⟩ := ModIn.grow HKR.out HE2.out
        obtain ⟨b2, o2, hA2, hcc2⟩ := hc2 (by omega)
        clear hc1 hc2
        subst hA1 hA2
        obtain ⟨x, hu⟩ : ∃ a, l[j]? = some a := ⟨_, List.getElem?_eq_getElem (by omega)⟩
        obtain ⟨y, hv⟩ : ∃ a, k[j]? = some a := ⟨_, List.getElem?_eq_getElem (by omega)⟩
        obtain ⟨c0, c1, c2⟩ := hcc1 j x hu
        obtain ⟨c3, c4, c5⟩ := hcc2 j y hv
        have hfx := hp1 x (List.mem_of_getElem? hu)
        have hfy := hp2 y (List.mem_of_getElem? hv)
        have hxn := HF9.out.2 x (List.mem_of_getElem? hu)
        have HTX := Lib.hid (fun X (hX : Keeps [] wr X) => rtexts_is x.a.A y.a.A x.a.n y.a.n x.a.c y.a.c x.a.vs y.a.vs X (StrsIn.grow hX hfx.2.2.2) (StrsIn.grow hX hfy.2.2.2) (by omega))
        have HTE := Lib.hid (take_eq7 (mods_at hu) (mods_at hv) HA.out)
        have HNE := Lib.hid (ne_at7 (mods_at hu) (mods_at hv))
        obtain ⟨k1, s, aA, an, ac, avs⟩ := x
        obtain ⟨k2, u, bA, bn, bc, bvs⟩ := y
        dsimp only at c0 c1 c2 c3 c4 c5 HTX
        obtain ⟨q, hq⟩ : ∃ q, (avs == bvs) = q := ⟨_, rfl⟩
        obtain ⟨r, hr⟩ : ∃ r, (s == u) = r := ⟨_, rfl⟩
        have hqr : (Mod7.mod ⟨k1, ⟨s, aA, an, ac, avs⟩⟩ == Mod7.mod ⟨k2, ⟨u, bA, bn, bc, bvs⟩⟩) = ((k1 == k2) && ((s == u) && (avs == bvs))) := rfl
        rw [hqr] at HTE HNE
        rw [hq] at HTX
        have HQ := Lib.hid hq
        have HR := Lib.hid hr
        obtain ⟨hs1, hs2, hs3⟩ := tx_beq s u r hr
        unfold tv at c1 c4
        have hji : (j : Int) < (n : Int) := by omega
        have hj0 : (0 : Int) ≤ (j : Int) := by omega
        have HF : Hid (∀ X, Keeps [] wr X → X.cell? ⟨b1, o1 + j * 3, none⟩ = some (.int .i64 k1) ∧ X.cell? ⟨b1, o1 + j * 3 + 1, none⟩ = some (.string ⟨s.toArray⟩) ∧ X.cell? ⟨b1, o1 + j * 3 + 2, none⟩ = some (.slice aA an ac) ∧ X.cell? ⟨b2, o2 + j * 3, none⟩ = some (.int .i64 k2) ∧ X.cell? ⟨b2, o2 + j * 3 + 1, none⟩ = some (.string ⟨u.toArray⟩) ∧ X.cell? ⟨b2, o2 + j * 3 + 2, none⟩ = some (.slice bA bn bc)) := fun X hX => ⟨(hX.cell (lt_of_cell c0) (by simp)).trans c0, (hX.cell (lt_of_cell c1) (by simp)).trans c1, (hX.cell (lt_of_cell c2) (by simp)).trans c2, (hX.cell (lt_of_cell c3) (by simp)).trans c3, (hX.cell (lt_of_cell c4) (by simp)).trans c4, (hX.cell (lt_of_cell c5) (by simp)).trans c5⟩
        clear hcc1 hcc2 hu hv hp1 hp2 hl1 hl2 hfx hfy hxn hqr hr c0 c1 c2 c3 c4 c5
        go_wp2_with fail
        refine wp_region_held_drew (S := (fun X => X.cell? ⟨b1, o1 + j * 3, none⟩ = some (.int .i64 k1) ∧ X.cell? ⟨b1, o1 + j * 3 + 1, none⟩ = some (.string ⟨s.toArray⟩) ∧ X.cell? ⟨b1, o1 + j * 3 + 2, none⟩ = some (.slice aA an ac) ∧ X.cell? ⟨b2, o2 + j * 3, none⟩ = some (.int .i64 k2) ∧ X.cell? ⟨b2, o2 + j * 3 + 1, none⟩ = some (.string ⟨u.toArray⟩) ∧ X.cell? ⟨b2, o2 + j * 3 + 2, none⟩ = some (.slice bA bn bc))) (by kernel_rfl) (HF.out _ ((Keeps.refl [] wr).drew)) ?_
        intro HS
        refine wpAnyH_take (i := 0) (v := .slice (some ⟨b1, o1, none⟩) n c) rfl (by kernel_rfl) (by kernel_rfl) (by kernel_rfl) (fun _ _ _ h => h) (Or.inl ⟨by kernel_rfl, ?_⟩) HS ?_
        · intro w5 hw5
          obtain ⟨c0, c1, c2, c3, c4, c5⟩ := hw5
          go_simp
        simp only [List.getElem_toArray, List.getElem_cons_succ, List.getElem_cons_zero, Act.put, List.setIfInBounds_toArray, List.set_cons_zero, List.set_cons_succ]
        refine wpAnyH_take (i := 1) (v := .int .i64 (j : Int)) rfl (by kernel_rfl) (by kernel_rfl) (by kernel_rfl) (fun _ _ _ h => h) (Or.inl ⟨by kernel_rfl, ?_⟩) HS ?_
        · intro w5 hw5
          obtain ⟨c0, c1, c2, c3, c4, c5⟩ := hw5
          go_simp
        simp only [List.getElem_toArray, List.getElem_cons_succ, List.getElem_cons_zero, Act.put, List.setIfInBounds_toArray, List.set_cons_zero, List.set_cons_succ]
        refine wpAnyH_take (i := 2) (v := .pointer (some ⟨b1, o1 + j * 3, none⟩)) rfl (by kernel_rfl) (by kernel_rfl) (by kernel_rfl) (fun _ _ _ h => h) (Or.inl ⟨by kernel_rfl, ?_⟩) HS ?_
        · intro w5 hw5
          obtain ⟨c0, c1, c2, c3, c4, c5⟩ := hw5
          go_simp
        simp only [List.getElem_toArray, List.getElem_cons_succ, List.getElem_cons_zero, Act.put, List.setIfInBounds_toArray, List.set_cons_zero, List.set_cons_succ]
        refine wpAnyH_take (i := 3) (v := .pointer (some ⟨b1, o1 + j * 3, none⟩)) rfl (by kernel_rfl) (by kernel_rfl) (by kernel_rfl) (fun _ _ _ h => h) (Or.inl ⟨by kernel_rfl, ?_⟩) HS ?_
        · intro w5 hw5
          obtain ⟨c0, c1, c2, c3, c4, c5⟩ := hw5
          go_simp
        simp only [List.getElem_toArray, List.getElem_cons_succ, List.getElem_cons_zero, Act.put, List.setIfInBounds_toArray, List.set_cons_zero, List.set_cons_succ]
        refine wpAnyH_take (i := 4) (v := .int .i64 k1) rfl (by kernel_rfl) (by kernel_rfl) (by kernel_rfl) (fun _ _ _ h => h) (Or.inl ⟨by kernel_rfl, ?_⟩) HS ?_
        · intro w5 hw5
          obtain ⟨c0, c1, c2, c3, c4, c5⟩ := hw5
          go_simp
        simp only [List.getElem_toArray, List.getElem_cons_succ, List.getElem_cons_zero, Act.put, List.setIfInBounds_toArray, List.set_cons_zero, List.set_cons_succ]
        refine wpAnyH_take (i := 5) (v := .slice (some ⟨b2, o2, none⟩) n d) rfl (by kernel_rfl) (by kernel_rfl) (by kernel_rfl) (fun _ _ _ h => h) (Or.inl ⟨by kernel_rfl, ?_⟩) HS ?_
        · intro w5 hw5
          obtain ⟨c0, c1, c2, c3, c4, c5⟩ := hw5
          go_simp
        simp only [List.getElem_toArray, List.getElem_cons_succ, List.getElem_cons_zero, Act.put, List.setIfInBounds_toArray, List.set_cons_zero, List.set_cons_succ]
        refine wpAnyH_take (i := 6) (v := .int .i64 (j : Int)) rfl (by kernel_rfl) (by kernel_rfl) (by kernel_rfl) (fun _ _ _ h => h) (Or.inl ⟨by kernel_rfl, ?_⟩) HS ?_
        · intro w5 hw5
          obtain ⟨c0, c1, c2, c3, c4, c5⟩ := hw5
          go_simp
        simp only [List.getElem_toArray, List.getElem_cons_succ, List.getElem_cons_zero, Act.put, List.setIfInBounds_toArray, List.set_cons_zero, List.set_cons_succ]
        refine wpAnyH_take (i := 7) (v := .pointer (some ⟨b2, o2 + j * 3, none⟩)) rfl (by kernel_rfl) (by kernel_rfl) (by kernel_rfl) (fun _ _ _ h => h) (Or.inl ⟨by kernel_rfl, ?_⟩) HS ?_
        · intro w5 hw5
          obtain ⟨c0, c1, c2, c3, c4, c5⟩ := hw5
          go_simp
        simp only [List.getElem_toArray, List.getElem_cons_succ, List.getElem_cons_zero, Act.put, List.setIfInBounds_toArray, List.set_cons_zero, List.set_cons_succ]
        refine wpAnyH_take (i := 8) (v := .pointer (some ⟨b2, o2 + j * 3, none⟩)) rfl (by kernel_rfl) (by kernel_rfl) (by kernel_rfl) (fun _ _ _ h => h) (Or.inl ⟨by kernel_rfl, ?_⟩) HS ?_
        · intro w5 hw5
          obtain ⟨c0, c1, c2, c3, c4, c5⟩ := hw5
          go_simp
        simp only [List.getElem_toArray, List.getElem_cons_succ, List.getElem_cons_zero, Act.put, List.setIfInBounds_toArray, List.set_cons_zero, List.set_cons_succ]
        refine wpAnyH_take (i := 9) (v := .int .i64 k2) rfl (by kernel_rfl) (by kernel_rfl) (by kernel_rfl) (fun _ _ _ h => h) (Or.inl ⟨by kernel_rfl, ?_⟩) HS ?_
        · intro w5 hw5
          obtain ⟨c0, c1, c2, c3, c4, c5⟩ := hw5
          go_simp
        simp only [List.getElem_toArray, List.getElem_cons_succ, List.getElem_cons_zero, Act.put, List.setIfInBounds_toArray, List.set_cons_zero, List.set_cons_succ]
        by_cases hk : k1 = k2
        · subst hk
          refine wpAnyH_take (i := 10) (v := .bool false) rfl (by kernel_rfl) (by kernel_rfl) (by kernel_rfl) (fun _ _ _ h => h) (Or.inl ⟨by kernel_rfl, ?_⟩) HS ?_
          · intro w5 hw5
            obtain ⟨c0, c1, c2, c3, c4, c5⟩ := hw5
            go_simp
            first | done | (simp; done)
          simp only [List.getElem_toArray, List.getElem_cons_succ, List.getElem_cons_zero, Act.put, List.setIfInBounds_toArray, List.set_cons_zero, List.set_cons_succ]
          refine wpAnyH_take (i := 11) (v := .bool false) rfl (by kernel_rfl) (by kernel_rfl) (by kernel_rfl) (fun _ _ _ h => h) (Or.inl ⟨by kernel_rfl, ?_⟩) HS ?_
          · intro w5 hw5
            obtain ⟨c0, c1, c2, c3, c4, c5⟩ := hw5
            go_simp
          simp only [List.getElem_toArray, List.getElem_cons_succ, List.getElem_cons_zero, Act.put, List.setIfInBounds_toArray, List.set_cons_zero, List.set_cons_succ]
          refine wpAnyH_take (i := 12) (v := .slice (some ⟨b1, o1, none⟩) n c) rfl (by kernel_rfl) (by kernel_rfl) (by kernel_rfl) (fun _ _ _ h => h) (Or.inl ⟨by kernel_rfl, ?_⟩) HS ?_
          · intro w5 hw5
            obtain ⟨c0, c1, c2, c3, c4, c5⟩ := hw5
            go_simp
          simp only [List.getElem_toArray, List.getElem_cons_succ, List.getElem_cons_zero, Act.put, List.setIfInBounds_toArray, List.set_cons_zero, List.set_cons_succ]
          refine wpAnyH_take (i := 13) (v := .int .i64 (j : Int)) rfl (by kernel_rfl) (by kernel_rfl) (by kernel_rfl) (fun _ _ _ h => h) (Or.inl ⟨by kernel_rfl, ?_⟩) HS ?_
          · intro w5 hw5
            obtain ⟨c0, c1, c2, c3, c4, c5⟩ := hw5
            go_simp
          simp only [List.getElem_toArray, List.getElem_cons_succ, List.getElem_cons_zero, Act.put, List.setIfInBounds_toArray, List.set_cons_zero, List.set_cons_succ]
          refine wpAnyH_take (i := 14) (v := .pointer (some ⟨b1, o1 + j * 3, none⟩)) rfl (by kernel_rfl) (by kernel_rfl) (by kernel_rfl) (fun _ _ _ h => h) (Or.inl ⟨by kernel_rfl, ?_⟩) HS ?_
          · intro w5 hw5
            obtain ⟨c0, c1, c2, c3, c4, c5⟩ := hw5
            go_simp
          simp only [List.getElem_toArray, List.getElem_cons_succ, List.getElem_cons_zero, Act.put, List.setIfInBounds_toArray, List.set_cons_zero, List.set_cons_succ]
          refine wpAnyH_take (i := 15) (v := .pointer (some ⟨b1, o1 + j * 3 + 1, none⟩)) rfl (by kernel_rfl) (by kernel_rfl) (by kernel_rfl) (fun _ _ _ h => h) (Or.inl ⟨by kernel_rfl, ?_⟩) HS ?_
          · intro w5 hw5
            obtain ⟨c0, c1, c2, c3, c4, c5⟩ := hw5
            go_simp
          simp only [List.getElem_toArray, List.getElem_cons_succ, List.getElem_cons_zero, Act.put, List.setIfInBounds_toArray, List.set_cons_zero, List.set_cons_succ]
          refine wpAnyH_take (i := 16) (v := .string ⟨s.toArray⟩) rfl (by kernel_rfl) (by kernel_rfl) (by kernel_rfl) (fun _ _ _ h => h) (Or.inl ⟨by kernel_rfl, ?_⟩) HS ?_
          · intro w5 hw5
            obtain ⟨c0, c1, c2, c3, c4, c5⟩ := hw5
            go_simp
          simp only [List.getElem_toArray, List.getElem_cons_succ, List.getElem_cons_zero, Act.put, List.setIfInBounds_toArray, List.set_cons_zero, List.set_cons_succ]
          refine wpAnyH_take (i := 17) (v := .slice (some ⟨b2, o2, none⟩) n d) rfl (by kernel_rfl) (by kernel_rfl) (by kernel_rfl) (fun _ _ _ h => h) (Or.inl ⟨by kernel_rfl, ?_⟩) HS ?_
          · intro w5 hw5
            obtain ⟨c0, c1, c2, c3, c4, c5⟩ := hw5
            go_simp
          simp only [List.getElem_toArray, List.getElem_cons_succ, List.getElem_cons_zero, Act.put, List.setIfInBounds_toArray, List.set_cons_zero, List.set_cons_succ]
          refine wpAnyH_take (i := 18) (v := .int .i64 (j : Int)) rfl (by kernel_rfl) (by kernel_rfl) (by kernel_rfl) (fun _ _ _ h => h) (Or.inl ⟨by kernel_rfl, ?_⟩) HS ?_
          · intro w5 hw5
            obtain ⟨c0, c1, c2, c3, c4, c5⟩ := hw5
            go_simp
          simp only [List.getElem_toArray, List.getElem_cons_succ, List.getElem_cons_zero, Act.put, List.setIfInBounds_toArray, List.set_cons_zero, List.set_cons_succ]
          refine wpAnyH_take (i := 19) (v := .pointer (some ⟨b2, o2 + j * 3, none⟩)) rfl (by kernel_rfl) (by kernel_rfl) (by kernel_rfl) (fun _ _ _ h => h) (Or.inl ⟨by kernel_rfl, ?_⟩) HS ?_
          · intro w5 hw5
            obtain ⟨c0, c1, c2, c3, c4, c5⟩ := hw5
            go_simp
          simp only [List.getElem_toArray, List.getElem_cons_succ, List.getElem_cons_zero, Act.put, List.setIfInBounds_toArray, List.set_cons_zero, List.set_cons_succ]
          refine wpAnyH_take (i := 20) (v := .pointer (some ⟨b2, o2 + j * 3 + 1, none⟩)) rfl (by kernel_rfl) (by kernel_rfl) (by kernel_rfl) (fun _ _ _ h => h) (Or.inl ⟨by kernel_rfl, ?_⟩) HS ?_
          · intro w5 hw5
            obtain ⟨c0, c1, c2, c3, c4, c5⟩ := hw5
            go_simp
          simp only [List.getElem_toArray, List.getElem_cons_succ, List.getElem_cons_zero, Act.put, List.setIfInBounds_toArray, List.set_cons_zero, List.set_cons_succ]
          refine wpAnyH_take (i := 21) (v := .string ⟨u.toArray⟩) rfl (by kernel_rfl) (by kernel_rfl) (by kernel_rfl) (fun _ _ _ h => h) (Or.inl ⟨by kernel_rfl, ?_⟩) HS ?_
          · intro w5 hw5
            obtain ⟨c0, c1, c2, c3, c4, c5⟩ := hw5
            go_simp
          simp only [List.getElem_toArray, List.getElem_cons_succ, List.getElem_cons_zero, Act.put, List.setIfInBounds_toArray, List.set_cons_zero, List.set_cons_succ]
          cases r
          · refine wpAnyH_take (i := 22) (v := .bool true) rfl (by kernel_rfl) (by kernel_rfl) (by kernel_rfl) (fun _ _ _ h => h) (Or.inl ⟨by kernel_rfl, ?_⟩) HS ?_
            · intro w5 hw5
              obtain ⟨c0, c1, c2, c3, c4, c5⟩ := hw5
              go_simp
              first | done | (simp [hs2]; done) | (simp [hs3]; done) | (simp_all; done)
            simp only [List.getElem_toArray, List.getElem_cons_succ, List.getElem_cons_zero, Act.put, List.setIfInBounds_toArray, List.set_cons_zero, List.set_cons_succ]
            refine wpAnyH_take (i := 23) (v := .bool true) rfl (by kernel_rfl) (by kernel_rfl) (by kernel_rfl) (fun _ _ _ h => h) (Or.inl ⟨by kernel_rfl, ?_⟩) HS ?_
            · intro w5 hw5
              obtain ⟨c0, c1, c2, c3, c4, c5⟩ := hw5
              go_simp
            simp only [List.getElem_toArray, List.getElem_cons_succ, List.getElem_cons_zero, Act.put, List.setIfInBounds_toArray, List.set_cons_zero, List.set_cons_succ]
            refine wpAnyH_take (i := 24) (v := .bool true) rfl (by kernel_rfl) (by kernel_rfl) (by kernel_rfl) (fun _ _ _ h => h) (Or.inl ⟨by kernel_rfl, ?_⟩) HS ?_
            · intro w5 hw5
              obtain ⟨c0, c1, c2, c3, c4, c5⟩ := hw5
              go_simp
            simp only [List.getElem_toArray, List.getElem_cons_succ, List.getElem_cons_zero, Act.put, List.setIfInBounds_toArray, List.set_cons_zero, List.set_cons_succ]
            refine wpAnyH_take (i := 25) (v := undef) rfl (by kernel_rfl) (by kernel_rfl) (by kernel_rfl) (fun _ _ _ h => h) (Or.inr ⟨by kernel_rfl, rfl⟩) HS ?_
            simp only [List.getElem_toArray, List.getElem_cons_succ, List.getElem_cons_zero, Act.put, List.setIfInBounds_toArray, List.set_cons_zero, List.set_cons_succ]
            refine wpAnyH_take (i := 26) (v := undef) rfl (by kernel_rfl) (by kernel_rfl) (by kernel_rfl) (fun _ _ _ h => h) (Or.inr ⟨by kernel_rfl, rfl⟩) HS ?_
            simp only [List.getElem_toArray, List.getElem_cons_succ, List.getElem_cons_zero, Act.put, List.setIfInBounds_toArray, List.set_cons_zero, List.set_cons_succ]
            refine wpAnyH_take (i := 27) (v := undef) rfl (by kernel_rfl) (by kernel_rfl) (by kernel_rfl) (fun _ _ _ h => h) (Or.inr ⟨by kernel_rfl, rfl⟩) HS ?_
            simp only [List.getElem_toArray, List.getElem_cons_succ, List.getElem_cons_zero, Act.put, List.setIfInBounds_toArray, List.set_cons_zero, List.set_cons_succ]
            refine wpAnyH_take (i := 28) (v := undef) rfl (by kernel_rfl) (by kernel_rfl) (by kernel_rfl) (fun _ _ _ h => h) (Or.inr ⟨by kernel_rfl, rfl⟩) HS ?_
            simp only [List.getElem_toArray, List.getElem_cons_succ, List.getElem_cons_zero, Act.put, List.setIfInBounds_toArray, List.set_cons_zero, List.set_cons_succ]
            refine wpAnyH_take (i := 29) (v := undef) rfl (by kernel_rfl) (by kernel_rfl) (by kernel_rfl) (fun _ _ _ h => h) (Or.inr ⟨by kernel_rfl, rfl⟩) HS ?_
            simp only [List.getElem_toArray, List.getElem_cons_succ, List.getElem_cons_zero, Act.put, List.setIfInBounds_toArray, List.set_cons_zero, List.set_cons_succ]
            refine wpAnyH_take (i := 30) (v := undef) rfl (by kernel_rfl) (by kernel_rfl) (by kernel_rfl) (fun _ _ _ h => h) (Or.inr ⟨by kernel_rfl, rfl⟩) HS ?_
            simp only [List.getElem_toArray, List.getElem_cons_succ, List.getElem_cons_zero, Act.put, List.setIfInBounds_toArray, List.set_cons_zero, List.set_cons_succ]
            refine wpAnyH_take (i := 31) (v := undef) rfl (by kernel_rfl) (by kernel_rfl) (by kernel_rfl) (fun _ _ _ h => h) (Or.inr ⟨by kernel_rfl, rfl⟩) HS ?_
            simp only [List.getElem_toArray, List.getElem_cons_succ, List.getElem_cons_zero, Act.put, List.setIfInBounds_toArray, List.set_cons_zero, List.set_cons_succ]
            refine wpAnyH_take (i := 32) (v := undef) rfl (by kernel_rfl) (by kernel_rfl) (by kernel_rfl) (fun _ _ _ h => h) (Or.inr ⟨by kernel_rfl, rfl⟩) HS ?_
            simp only [List.getElem_toArray, List.getElem_cons_succ, List.getElem_cons_zero, Act.put, List.setIfInBounds_toArray, List.set_cons_zero, List.set_cons_succ]
            refine wpAnyH_take (i := 33) (v := undef) rfl (by kernel_rfl) (by kernel_rfl) (by kernel_rfl) (fun _ _ _ h => h) (Or.inr ⟨by kernel_rfl, rfl⟩) HS ?_
            simp only [List.getElem_toArray, List.getElem_cons_succ, List.getElem_cons_zero, Act.put, List.setIfInBounds_toArray, List.set_cons_zero, List.set_cons_succ]
            refine wpAnyH_take (i := 34) (v := undef) rfl (by kernel_rfl) (by kernel_rfl) (by kernel_rfl) (fun _ _ _ h => h) (Or.inr ⟨by kernel_rfl, rfl⟩) HS ?_
            simp only [List.getElem_toArray, List.getElem_cons_succ, List.getElem_cons_zero, Act.put, List.setIfInBounds_toArray, List.set_cons_zero, List.set_cons_succ]
            refine wpAnyH_take (i := 35) (v := undef) rfl (by kernel_rfl) (by kernel_rfl) (by kernel_rfl) (fun _ _ _ h => h) (Or.inr ⟨by kernel_rfl, rfl⟩) HS ?_
            simp only [List.getElem_toArray, List.getElem_cons_succ, List.getElem_cons_zero, Act.put, List.setIfInBounds_toArray, List.set_cons_zero, List.set_cons_succ]
            refine wpAnyH_take (i := 36) (v := undef) rfl (by kernel_rfl) (by kernel_rfl) (by kernel_rfl) (fun _ _ _ h => h) (Or.inr ⟨by kernel_rfl, rfl⟩) HS ?_
            simp only [List.getElem_toArray, List.getElem_cons_succ, List.getElem_cons_zero, Act.put, List.setIfInBounds_toArray, List.set_cons_zero, List.set_cons_succ]
            refine wpAnyH_take (i := 37) (v := .bool true) rfl (by kernel_rfl) (by kernel_rfl) (by kernel_rfl) (fun _ _ _ h => h) (Or.inl ⟨by kernel_rfl, ?_⟩) HS ?_
            · intro w5 hw5
              obtain ⟨c0, c1, c2, c3, c4, c5⟩ := hw5
              go_simp
            simp only [List.getElem_toArray, List.getElem_cons_succ, List.getElem_cons_zero, Act.put, List.setIfInBounds_toArray, List.set_cons_zero, List.set_cons_succ]
            have HNO : Hid ((modsOf l == modsOf k) = false) := HNE.out (by simp [HR.out])
            have KQ : Hid (Keeps [] wr wr.drew) := (Keeps.refl [] wr).drew
            refine wpAnyH_done (by kernel_rfl) ?_ _
            go_wp2_with fail
            go_ret
            exact ⟨by rw [HNO.out]; rfl, HKR.out.trans' KQ.out⟩
          · refine wpAnyH_take (i := 22) (v := .bool false) rfl (by kernel_rfl) (by kernel_rfl) (by kernel_rfl) (fun _ _ _ h => h) (Or.inl ⟨by kernel_rfl, ?_⟩) HS ?_
            · intro w5 hw5
              obtain ⟨c0, c1, c2, c3, c4, c5⟩ := hw5
              go_simp
              first | done | (simp [hs2]; done) | (simp [hs3]; done) | (simp_all; done)
            simp only [List.getElem_toArray, List.getElem_cons_succ, List.getElem_cons_zero, Act.put, List.setIfInBounds_toArray, List.set_cons_zero, List.set_cons_succ]
            refine wpAnyH_take (i := 23) (v := .bool false) rfl (by kernel_rfl) (by kernel_rfl) (by kernel_rfl) (fun _ _ _ h => h) (Or.inl ⟨by kernel_rfl, ?_⟩) HS ?_
            · intro w5 hw5
              obtain ⟨c0, c1, c2, c3, c4, c5⟩ := hw5
              go_simp
            simp only [List.getElem_toArray, List.getElem_cons_succ, List.getElem_cons_zero, Act.put, List.setIfInBounds_toArray, List.set_cons_zero, List.set_cons_succ]
            refine wpAnyH_take (i := 24) (v := .bool false) rfl (by kernel_rfl) (by kernel_rfl) (by kernel_rfl) (fun _ _ _ h => h) (Or.inl ⟨by kernel_rfl, ?_⟩) HS ?_
            · intro w5 hw5
              obtain ⟨c0, c1, c2, c3, c4, c5⟩ := hw5
              go_simp
            simp only [List.getElem_toArray, List.getElem_cons_succ, List.getElem_cons_zero, Act.put, List.setIfInBounds_toArray, List.set_cons_zero, List.set_cons_succ]
            refine wpAnyH_take (i := 25) (v := .slice (some ⟨b1, o1, none⟩) n c) rfl (by kernel_rfl) (by kernel_rfl) (by kernel_rfl) (fun _ _ _ h => h) (Or.inl ⟨by kernel_rfl, ?_⟩) HS ?_
            · intro w5 hw5
              obtain ⟨c0, c1, c2, c3, c4, c5⟩ := hw5
              go_simp
            simp only [List.getElem_toArray, List.getElem_cons_succ, List.getElem_cons_zero, Act.put, List.setIfInBounds_toArray, List.set_cons_zero, List.set_cons_succ]
            refine wpAnyH_take (i := 26) (v := .int .i64 (j : Int)) rfl (by kernel_rfl) (by kernel_rfl) (by kernel_rfl) (fun _ _ _ h => h) (Or.inl ⟨by kernel_rfl, ?_⟩) HS ?_
            · intro w5 hw5
              obtain ⟨c0, c1, c2, c3, c4, c5⟩ := hw5
              go_simp
            simp only [List.getElem_toArray, List.getElem_cons_succ, List.getElem_cons_zero, Act.put, List.setIfInBounds_toArray, List.set_cons_zero, List.set_cons_succ]
            refine wpAnyH_take (i := 27) (v := .pointer (some ⟨b1, o1 + j * 3, none⟩)) rfl (by kernel_rfl) (by kernel_rfl) (by kernel_rfl) (fun _ _ _ h => h) (Or.inl ⟨by kernel_rfl, ?_⟩) HS ?_
            · intro w5 hw5
              obtain ⟨c0, c1, c2, c3, c4, c5⟩ := hw5
              go_simp
            simp only [List.getElem_toArray, List.getElem_cons_succ, List.getElem_cons_zero, Act.put, List.setIfInBounds_toArray, List.set_cons_zero, List.set_cons_succ]
            refine wpAnyH_take (i := 28) (v := .pointer (some ⟨b1, o1 + j * 3 + 2, none⟩)) rfl (by kernel_rfl) (by kernel_rfl) (by kernel_rfl) (fun _ _ _ h => h) (Or.inl ⟨by kernel_rfl, ?_⟩) HS ?_
            · intro w5 hw5
              obtain ⟨c0, c1, c2, c3, c4, c5⟩ := hw5
              go_simp
            simp only [List.getElem_toArray, List.getElem_cons_succ, List.getElem_cons_zero, Act.put, List.setIfInBounds_toArray, List.set_cons_zero, List.set_cons_succ]
            refine wpAnyH_take (i := 29) (v := .slice aA an ac) rfl (by kernel_rfl) (by kernel_rfl) (by kernel_rfl) (fun _ _ _ h => h) (Or.inl ⟨by kernel_rfl, ?_⟩) HS ?_
            · intro w5 hw5
              obtain ⟨c0, c1, c2, c3, c4, c5⟩ := hw5
              go_simp
            simp only [List.getElem_toArray, List.getElem_cons_succ, List.getElem_cons_zero, Act.put, List.setIfInBounds_toArray, List.set_cons_zero, List.set_cons_succ]
            refine wpAnyH_take (i := 30) (v := .slice (some ⟨b2, o2, none⟩) n d) rfl (by kernel_rfl) (by kernel_rfl) (by kernel_rfl) (fun _ _ _ h => h) (Or.inl ⟨by kernel_rfl, ?_⟩) HS ?_
            · intro w5 hw5
              obtain ⟨c0, c1, c2, c3, c4, c5⟩ := hw5
              go_simp
            simp only [List.getElem_toArray, List.getElem_cons_succ, List.getElem_cons_zero, Act.put, List.setIfInBounds_toArray, List.set_cons_zero, List.set_cons_succ]
            refine wpAnyH_take (i := 31) (v := .int .i64 (j : Int)) rfl (by kernel_rfl) (by kernel_rfl) (by kernel_rfl) (fun _ _ _ h => h) (Or.inl ⟨by kernel_rfl, ?_⟩) HS ?_
            · intro w5 hw5
              obtain ⟨c0, c1, c2, c3, c4, c5⟩ := hw5
              go_simp
            simp only [List.getElem_toArray, List.getElem_cons_succ, List.getElem_cons_zero, Act.put, List.setIfInBounds_toArray, List.set_cons_zero, List.set_cons_succ]
            refine wpAnyH_take (i := 32) (v := .pointer (some ⟨b2, o2 + j * 3, none⟩)) rfl (by kernel_rfl) (by kernel_rfl) (by kernel_rfl) (fun _ _ _ h => h) (Or.inl ⟨by kernel_rfl, ?_⟩) HS ?_
            · intro w5 hw5
              obtain ⟨c0, c1, c2, c3, c4, c5⟩ := hw5
              go_simp
            simp only [List.getElem_toArray, List.getElem_cons_succ, List.getElem_cons_zero, Act.put, List.setIfInBounds_toArray, List.set_cons_zero, List.set_cons_succ]
            refine wpAnyH_take (i := 33) (v := .pointer (some ⟨b2, o2 + j * 3 + 2, none⟩)) rfl (by kernel_rfl) (by kernel_rfl) (by kernel_rfl) (fun _ _ _ h => h) (Or.inl ⟨by kernel_rfl, ?_⟩) HS ?_
            · intro w5 hw5
              obtain ⟨c0, c1, c2, c3, c4, c5⟩ := hw5
              go_simp
            simp only [List.getElem_toArray, List.getElem_cons_succ, List.getElem_cons_zero, Act.put, List.setIfInBounds_toArray, List.set_cons_zero, List.set_cons_succ]
            refine wpAnyH_take (i := 34) (v := .slice bA bn bc) rfl (by kernel_rfl) (by kernel_rfl) (by kernel_rfl) (fun _ _ _ h => h) (Or.inl ⟨by kernel_rfl, ?_⟩) HS ?_
            · intro w5 hw5
              obtain ⟨c0, c1, c2, c3, c4, c5⟩ := hw5
              go_simp
            simp only [List.getElem_toArray, List.getElem_cons_succ, List.getElem_cons_zero, Act.put, List.setIfInBounds_toArray, List.set_cons_zero, List.set_cons_succ]
            refine wpAnyH_ready (rs := [35]) (by kernel_rfl) (by simp) ?_
            refine AllReadyH.cons rfl (fun K hK => ?_) AllReadyH.nil
            go_simp
            refine (HTX.out _ (Keeps.drew (Keeps.refl [] wr))).mono ?_
            rintro e w5 ⟨rfl, hk5⟩
            have KQ : Hid (Keeps [] wr w5) := Keeps.trans' ((Keeps.refl [] wr).drew) hk5
            clear hk5
            refine hK.out _ _ (HF.out _ KQ.out) (fun HS => ?_)
            clear hK K
            refine wpAnyH_take (i := 36) (v := .bool (!q)) rfl (by kernel_rfl) (by kernel_rfl) (by kernel_rfl) (fun _ _ _ h => h) (Or.inl ⟨by kernel_rfl, ?_⟩) HS ?_
            · intro w5 hw5
              obtain ⟨c0, c1, c2, c3, c4, c5⟩ := hw5
              go_simp
            simp only [List.getElem_toArray, List.getElem_cons_succ, List.getElem_cons_zero, Act.put, List.setIfInBounds_toArray, List.set_cons_zero, List.set_cons_succ]
            refine wpAnyH_take (i := 37) (v := .bool (!q)) rfl (by kernel_rfl) (by kernel_rfl) (by kernel_rfl) (fun _ _ _ h => h) (Or.inl ⟨by kernel_rfl, ?_⟩) HS ?_
            · intro w5 hw5
              obtain ⟨c0, c1, c2, c3, c4, c5⟩ := hw5
              go_simp
            simp only [List.getElem_toArray, List.getElem_cons_succ, List.getElem_cons_zero, Act.put, List.setIfInBounds_toArray, List.set_cons_zero, List.set_cons_succ]
            refine wpAnyH_done (by kernel_rfl) ?_ _
            cases q
            · have HNO : Hid ((modsOf l == modsOf k) = false) := HNE.out (by simp [HQ.out])
              go_wp2_with fail
              go_ret
              exact ⟨by rw [HNO.out]; rfl, HKR.out.trans' KQ.out⟩
            · have HTY : Hid ((modsOf l).take (j + 1) = (modsOf k).take (j + 1)) := HTE.out (by simp [HR.out, HQ.out])
              go_wp2_with fail
              go_roundw
              case rel => exact ⟨j + 1, by go_num, by omega, HTY.out, HKR.out.trans' KQ.out⟩
              case measure => simp [intOf]; omega
        · refine wpAnyH_take (i := 10) (v := .bool true) rfl (by kernel_rfl) (by kernel_rfl) (by kernel_rfl) (fun _ _ _ h => h) (Or.inl ⟨by kernel_rfl, ?_⟩) HS ?_
          · intro w5 hw5
            obtain ⟨c0, c1, c2, c3, c4, c5⟩ := hw5
            go_simp
            first | done | (simp [hk]; done) | (simp_all; done)
          simp only [List.getElem_toArray, List.getElem_cons_succ, List.getElem_cons_zero, Act.put, List.setIfInBounds_toArray, List.set_cons_zero, List.set_cons_succ]
          refine wpAnyH_take (i := 11) (v := .bool true) rfl (by kernel_rfl) (by kernel_rfl) (by kernel_rfl) (fun _ _ _ h => h) (Or.inl ⟨by kernel_rfl, ?_⟩) HS ?_
          · intro w5 hw5
            obtain ⟨c0, c1, c2, c3, c4, c5⟩ := hw5
            go_simp
          simp only [List.getElem_toArray, List.getElem_cons_succ, List.getElem_cons_zero, Act.put, List.setIfInBounds_toArray, List.set_cons_zero, List.set_cons_succ]
          refine wpAnyH_take (i := 12) (v := undef) rfl (by kernel_rfl) (by kernel_rfl) (by kernel_rfl) (fun _ _ _ h => h) (Or.inr ⟨by kernel_rfl, rfl⟩) HS ?_
          simp only [List.getElem_toArray, List.getElem_cons_succ, List.getElem_cons_zero, Act.put, List.setIfInBounds_toArray, List.set_cons_zero, List.set_cons_succ]
          refine wpAnyH_take (i := 13) (v := undef) rfl (by kernel_rfl) (by kernel_rfl) (by kernel_rfl) (fun _ _ _ h => h) (Or.inr ⟨by kernel_rfl, rfl⟩) HS ?_
          simp only [List.getElem_toArray, List.getElem_cons_succ, List.getElem_cons_zero, Act.put, List.setIfInBounds_toArray, List.set_cons_zero, List.set_cons_succ]
          refine wpAnyH_take (i := 14) (v := undef) rfl (by kernel_rfl) (by kernel_rfl) (by kernel_rfl) (fun _ _ _ h => h) (Or.inr ⟨by kernel_rfl, rfl⟩) HS ?_
          simp only [List.getElem_toArray, List.getElem_cons_succ, List.getElem_cons_zero, Act.put, List.setIfInBounds_toArray, List.set_cons_zero, List.set_cons_succ]
          refine wpAnyH_take (i := 15) (v := undef) rfl (by kernel_rfl) (by kernel_rfl) (by kernel_rfl) (fun _ _ _ h => h) (Or.inr ⟨by kernel_rfl, rfl⟩) HS ?_
          simp only [List.getElem_toArray, List.getElem_cons_succ, List.getElem_cons_zero, Act.put, List.setIfInBounds_toArray, List.set_cons_zero, List.set_cons_succ]
          refine wpAnyH_take (i := 16) (v := undef) rfl (by kernel_rfl) (by kernel_rfl) (by kernel_rfl) (fun _ _ _ h => h) (Or.inr ⟨by kernel_rfl, rfl⟩) HS ?_
          simp only [List.getElem_toArray, List.getElem_cons_succ, List.getElem_cons_zero, Act.put, List.setIfInBounds_toArray, List.set_cons_zero, List.set_cons_succ]
          refine wpAnyH_take (i := 17) (v := undef) rfl (by kernel_rfl) (by kernel_rfl) (by kernel_rfl) (fun _ _ _ h => h) (Or.inr ⟨by kernel_rfl, rfl⟩) HS ?_
          simp only [List.getElem_toArray, List.getElem_cons_succ, List.getElem_cons_zero, Act.put, List.setIfInBounds_toArray, List.set_cons_zero, List.set_cons_succ]
          refine wpAnyH_take (i := 18) (v := undef) rfl (by kernel_rfl) (by kernel_rfl) (by kernel_rfl) (fun _ _ _ h => h) (Or.inr ⟨by kernel_rfl, rfl⟩) HS ?_
          simp only [List.getElem_toArray, List.getElem_cons_succ, List.getElem_cons_zero, Act.put, List.setIfInBounds_toArray, List.set_cons_zero, List.set_cons_succ]
          refine wpAnyH_take (i := 19) (v := undef) rfl (by kernel_rfl) (by kernel_rfl) (by kernel_rfl) (fun _ _ _ h => h) (Or.inr ⟨by kernel_rfl, rfl⟩) HS ?_
          simp only [List.getElem_toArray, List.getElem_cons_succ, List.getElem_cons_zero, Act.put, List.setIfInBounds_toArray, List.set_cons_zero, List.set_cons_succ]
          refine wpAnyH_take (i := 20) (v := undef) rfl (by kernel_rfl) (by kernel_rfl) (by kernel_rfl) (fun _ _ _ h => h) (Or.inr ⟨by kernel_rfl, rfl⟩) HS ?_
          simp only [List.getElem_toArray, List.getElem_cons_succ, List.getElem_cons_zero, Act.put, List.setIfInBounds_toArray, List.set_cons_zero, List.set_cons_succ]
          refine wpAnyH_take (i := 21) (v := undef) rfl (by kernel_rfl) (by kernel_rfl) (by kernel_rfl) (fun _ _ _ h => h) (Or.inr ⟨by kernel_rfl, rfl⟩) HS ?_
          simp only [List.getElem_toArray, List.getElem_cons_succ, List.getElem_cons_zero, Act.put, List.setIfInBounds_toArray, List.set_cons_zero, List.set_cons_succ]
          refine wpAnyH_take (i := 22) (v := undef) rfl (by kernel_rfl) (by kernel_rfl) (by kernel_rfl) (fun _ _ _ h => h) (Or.inr ⟨by kernel_rfl, rfl⟩) HS ?_
          simp only [List.getElem_toArray, List.getElem_cons_succ, List.getElem_cons_zero, Act.put, List.setIfInBounds_toArray, List.set_cons_zero, List.set_cons_succ]
          refine wpAnyH_take (i := 23) (v := .bool true) rfl (by kernel_rfl) (by kernel_rfl) (by kernel_rfl) (fun _ _ _ h => h) (Or.inl ⟨by kernel_rfl, ?_⟩) HS ?_
          · intro w5 hw5
            obtain ⟨c0, c1, c2, c3, c4, c5⟩ := hw5
            go_simp
          simp only [List.getElem_toArray, List.getElem_cons_succ, List.getElem_cons_zero, Act.put, List.setIfInBounds_toArray, List.set_cons_zero, List.set_cons_succ]
          refine wpAnyH_take (i := 24) (v := .bool true) rfl (by kernel_rfl) (by kernel_rfl) (by kernel_rfl) (fun _ _ _ h => h) (Or.inl ⟨by kernel_rfl, ?_⟩) HS ?_
          · intro w5 hw5
            obtain ⟨c0, c1, c2, c3, c4, c5⟩ := hw5
            go_simp
          simp only [List.getElem_toArray, List.getElem_cons_succ, List.getElem_cons_zero, Act.put, List.setIfInBounds_toArray, List.set_cons_zero, List.set_cons_succ]
          refine wpAnyH_take (i := 25) (v := undef) rfl (by kernel_rfl) (by kernel_rfl) (by kernel_rfl) (fun _ _ _ h => h) (Or.inr ⟨by kernel_rfl, rfl⟩) HS ?_
          simp only [List.getElem_toArray, List.getElem_cons_succ, List.getElem_cons_zero, Act.put, List.setIfInBounds_toArray, List.set_cons_zero, List.set_cons_succ]
          refine wpAnyH_take (i := 26) (v := undef) rfl (by kernel_rfl) (by kernel_rfl) (by kernel_rfl) (fun _ _ _ h => h) (Or.inr ⟨by kernel_rfl, rfl⟩) HS ?_
          simp only [List.getElem_toArray, List.getElem_cons_succ, List.getElem_cons_zero, Act.put, List.setIfInBounds_toArray, List.set_cons_zero, List.set_cons_succ]
          refine wpAnyH_take (i := 27) (v := undef) rfl (by kernel_rfl) (by kernel_rfl) (by kernel_rfl) (fun _ _ _ h => h) (Or.inr ⟨by kernel_rfl, rfl⟩) HS ?_
          simp only [List.getElem_toArray, List.getElem_cons_succ, List.getElem_cons_zero, Act.put, List.setIfInBounds_toArray, List.set_cons_zero, List.set_cons_succ]
          refine wpAnyH_take (i := 28) (v := undef) rfl (by kernel_rfl) (by kernel_rfl) (by kernel_rfl) (fun _ _ _ h => h) (Or.inr ⟨by kernel_rfl, rfl⟩) HS ?_
          simp only [List.getElem_toArray, List.getElem_cons_succ, List.getElem_cons_zero, Act.put, List.setIfInBounds_toArray, List.set_cons_zero, List.set_cons_succ]
          refine wpAnyH_take (i := 29) (v := undef) rfl (by kernel_rfl) (by kernel_rfl) (by kernel_rfl) (fun _ _ _ h => h) (Or.inr ⟨by kernel_rfl, rfl⟩) HS ?_
          simp only [List.getElem_toArray, List.getElem_cons_succ, List.getElem_cons_zero, Act.put, List.setIfInBounds_toArray, List.set_cons_zero, List.set_cons_succ]
          refine wpAnyH_take (i := 30) (v := undef) rfl (by kernel_rfl) (by kernel_rfl) (by kernel_rfl) (fun _ _ _ h => h) (Or.inr ⟨by kernel_rfl, rfl⟩) HS ?_
          simp only [List.getElem_toArray, List.getElem_cons_succ, List.getElem_cons_zero, Act.put, List.setIfInBounds_toArray, List.set_cons_zero, List.set_cons_succ]
          refine wpAnyH_take (i := 31) (v := undef) rfl (by kernel_rfl) (by kernel_rfl) (by kernel_rfl) (fun _ _ _ h => h) (Or.inr ⟨by kernel_rfl, rfl⟩) HS ?_
          simp only [List.getElem_toArray, List.getElem_cons_succ, List.getElem_cons_zero, Act.put, List.setIfInBounds_toArray, List.set_cons_zero, List.set_cons_succ]
          refine wpAnyH_take (i := 32) (v := undef) rfl (by kernel_rfl) (by kernel_rfl) (by kernel_rfl) (fun _ _ _ h => h) (Or.inr ⟨by kernel_rfl, rfl⟩) HS ?_
          simp only [List.getElem_toArray, List.getElem_cons_succ, List.getElem_cons_zero, Act.put, List.setIfInBounds_toArray, List.set_cons_zero, List.set_cons_succ]
          refine wpAnyH_take (i := 33) (v := undef) rfl (by kernel_rfl) (by kernel_rfl) (by kernel_rfl) (fun _ _ _ h => h) (Or.inr ⟨by kernel_rfl, rfl⟩) HS ?_
          simp only [List.getElem_toArray, List.getElem_cons_succ, List.getElem_cons_zero, Act.put, List.setIfInBounds_toArray, List.set_cons_zero, List.set_cons_succ]
          refine wpAnyH_take (i := 34) (v := undef) rfl (by kernel_rfl) (by kernel_rfl) (by kernel_rfl) (fun _ _ _ h => h) (Or.inr ⟨by kernel_rfl, rfl⟩) HS ?_
          simp only [List.getElem_toArray, List.getElem_cons_succ, List.getElem_cons_zero, Act.put, List.setIfInBounds_toArray, List.set_cons_zero, List.set_cons_succ]
          refine wpAnyH_take (i := 35) (v := undef) rfl (by kernel_rfl) (by kernel_rfl) (by kernel_rfl) (fun _ _ _ h => h) (Or.inr ⟨by kernel_rfl, rfl⟩) HS ?_
          simp only [List.getElem_toArray, List.getElem_cons_succ, List.getElem_cons_zero, Act.put, List.setIfInBounds_toArray, List.set_cons_zero, List.set_cons_succ]
          refine wpAnyH_take (i := 36) (v := undef) rfl (by kernel_rfl) (by kernel_rfl) (by kernel_rfl) (fun _ _ _ h => h) (Or.inr ⟨by kernel_rfl, rfl⟩) HS ?_
          simp only [List.getElem_toArray, List.getElem_cons_succ, List.getElem_cons_zero, Act.put, List.setIfInBounds_toArray, List.set_cons_zero, List.set_cons_succ]
          refine wpAnyH_take (i := 37) (v := .bool true) rfl (by kernel_rfl) (by kernel_rfl) (by kernel_rfl) (fun _ _ _ h => h) (Or.inl ⟨by kernel_rfl, ?_⟩) HS ?_
          · intro w5 hw5
            obtain ⟨c0, c1, c2, c3, c4, c5⟩ := hw5
            go_simp
          simp only [List.getElem_toArray, List.getElem_cons_succ, List.getElem_cons_zero, Act.put, List.setIfInBounds_toArray, List.set_cons_zero, List.set_cons_succ]
          have HNO : Hid ((modsOf l == modsOf k) = false) := HNE.out (by simp [hk])
          have KQ : Hid (Keeps [] wr wr.drew) := (Keeps.refl [] wr).drew
          refine wpAnyH_done (by kernel_rfl) ?_ _
          go_wp2_with fail
          go_ret
          exact ⟨by rw [HNO.out]; rfl, HKR.out.trans' KQ.out⟩
      · obtain rfl : j = n := by omega
        have h9 := HA.out
        rw [List.take_of_length_le (by rw [HL1.out]; exact Nat.le_refl _), List.take_of_length_le (by rw [HL2.out]; exact Nat.le_refl _)] at h9
        have HY : Hid ((modsOf l == modsOf k) = true) := by show _ = _; rw [h9]; simp
        clear h9
        go_wp2_with fail
        go_ret
        exact ⟨by rw [HY.out]; rfl, HKR.out⟩
  · have HNO : Hid ((modsOf l == modsOf k) = false) := by
      show _ = _
      rw [beq_eq_false_iff_ne]
      intro e
      rw [e] at HL1
      exact hnm (HL1.out.symm.trans HL2.out)
    have hni : ¬ (n : Int) = (m : Int) := by omega
    have hnb : ((n : Int) == (m : Int)) = false := by simpa using hni
    have hnc : ((n : Int) != (m : Int)) = true := by simpa using hni
    go_enter Tryz.func23, Tryz.ntmps23
    go_wp2_with fail
    go_ret
    exact ⟨by rw [HNO.out]; rfl, Keeps.refl _ _⟩
end Go.Proofs.YtfjlcfbomlfpfaaGreatDoor
/- entry: the document's Diff; walked. -/
namespace Go.Proofs.YtfjlcfbomlfpfaaGreatDoor
open Go.RowKit Go.Shelf
set_option linter.unusedVariables false
set_option linter.unusedSimpArgs false
set_option maxRecDepth 100000

/-- What Get answers: an attribute's own slice, or nil. -/
def GetP (l : List At7) (xs : List Txt) (w : World) (e : Ending) (w' : World) : Prop :=
  ∃ A c, e = .returned (.slice A xs.length c) ∧ ((xs = [] ∧ A = none ∧ c = 0) ∨ ∃ a ∈ l, a.A = A ∧ a.c = c ∧ a.vs = xs) ∧ Keeps [] w w'
set_option maxHeartbeats 8000000 in
theorem rgetp_is (A : Option Addr) (n c : Nat) (l : List At7) (v : Txt) (w : World) (h : EntIn w A n l) (hn : n ≤ 100000) (hv : v.length ≤ 9223372036854775807) :
    Calls Tryz.prog 21 #[.slice A n c, tv v] w (GetP l (cont2 (ents l) (smallL v)) w) := by
  have HD := Lib.hid h
  have HEL : Hid ((ents l).length = n) := by show _ = _; rw [ents_len, h.1]
  have HSM := Lib.hid (fun X : World => rsmall_is v X hv)
  obtain ⟨z, hz⟩ : ∃ z, smallL v = z := ⟨_, rfl⟩
  rw [hz] at HSM ⊢
  unfold tv
  clear h hz hv
  go_enter Tryz.func21, Tryz.ntmps21
  go_wp2_with fail
  go_loopw [5] (fun i wr => ∃ j : Nat, i = .int .i64 (j : Int) ∧ j ≤ n ∧ Hid (((ents l).take j).find? (fun a => a.1 == z) = none) ∧ Hid (Keeps [] w wr)) (fun i _ => n - (intOf i).toNat)
  case atStart => exact ⟨0, rfl, Nat.zero_le _, by simp [Hid], Keeps.refl _ _⟩
  case round =>
    obtain ⟨j, rfl, hj, HA, HKR⟩ := hrel
    by_cases hlt : j < n
    · obtain ⟨hl, hp, hc9⟩ := EntIn.grow HKR.out HD.out
      obtain ⟨b, o, hA9, hcc⟩ := hc9 (by omega)
      clear hc9
      subst hA9
      obtain ⟨a, hu⟩ : ∃ a, l[j]? = some a := ⟨_, List.getElem?_eq_getElem (by omega)⟩
      obtain ⟨c0, c1⟩ := hcc j a hu
      have HFT : Hid (a ∈ l ∧ a.vs.length = a.n) := ⟨List.mem_of_getElem? hu, (hp a (List.mem_of_getElem? hu)).2.2.2.1⟩
      have HUE := Lib.hid (ents_at hu)
      obtain ⟨nm, aA, an, ac, avs⟩ := a
      dsimp only at c0 c1
      unfold tv at c0
      have hji : (j : Int) < (n : Int) := by omega
      have hj0 : (0 : Int) ≤ (j : Int) := by omega
      have HF : Hid (∀ X, Keeps [] wr X → X.cell? ⟨b, o + j * 2, none⟩ = some (.string ⟨nm.toArray⟩) ∧ X.cell? ⟨b, o + j * 2 + 1, none⟩ = some (.slice aA an ac)) := fun X hX => ⟨(hX.cell (lt_of_cell c0) (by simp)).trans c0, (hX.cell (lt_of_cell c1) (by simp)).trans c1⟩
      obtain ⟨r, hr⟩ : ∃ r, (nm == z) = r := ⟨_, rfl⟩
      obtain ⟨hs1, hs2, hs3⟩ := tx_beq nm z r hr
      clear hcc hu hp hl c0 c1
      cases r
      · have HN2 := Lib.hid (find_none7 HUE.out (show nm ≠ z by simpa using hr) HA.out)
        clear hr
        go_wp2_with fail
        refine wp_region_held_drew (S := (fun X => X.cell? ⟨b, o + j * 2, none⟩ = some (.string ⟨nm.toArray⟩) ∧ X.cell? ⟨b, o + j * 2 + 1, none⟩ = some (.slice aA an ac))) (by kernel_rfl) (HF.out _ ((Keeps.refl [] wr).drew)) ?_
        intro HS
        refine wpAnyH_take (i := 0) (v := .slice (some ⟨b, o, none⟩) n c) rfl (by kernel_rfl) (by kernel_rfl) (by kernel_rfl) (fun _ _ _ h => h) (Or.inl ⟨by kernel_rfl, ?_⟩) HS ?_
        · intro w5 hw5
          obtain ⟨c0, c1⟩ := hw5
          go_simp
        simp only [List.getElem_toArray, List.getElem_cons_succ, List.getElem_cons_zero, Act.put, List.setIfInBounds_toArray, List.set_cons_zero, List.set_cons_succ]
        refine wpAnyH_take (i := 1) (v := .int .i64 (j : Int)) rfl (by kernel_rfl) (by kernel_rfl) (by kernel_rfl) (fun _ _ _ h => h) (Or.inl ⟨by kernel_rfl, ?_⟩) HS ?_
        · intro w5 hw5
          obtain ⟨c0, c1⟩ := hw5
          go_simp
        simp only [List.getElem_toArray, List.getElem_cons_succ, List.getElem_cons_zero, Act.put, List.setIfInBounds_toArray, List.set_cons_zero, List.set_cons_succ]
        refine wpAnyH_take (i := 2) (v := .pointer (some ⟨b, o + j * 2, none⟩)) rfl (by kernel_rfl) (by kernel_rfl) (by kernel_rfl) (fun _ _ _ h => h) (Or.inl ⟨by kernel_rfl, ?_⟩) HS ?_
        · intro w5 hw5
          obtain ⟨c0, c1⟩ := hw5
          go_simp
        simp only [List.getElem_toArray, List.getElem_cons_succ, List.getElem_cons_zero, Act.put, List.setIfInBounds_toArray, List.set_cons_zero, List.set_cons_succ]
        refine wpAnyH_take (i := 3) (v := .pointer (some ⟨b, o + j * 2, none⟩)) rfl (by kernel_rfl) (by kernel_rfl) (by kernel_rfl) (fun _ _ _ h => h) (Or.inl ⟨by kernel_rfl, ?_⟩) HS ?_
        · intro w5 hw5
          obtain ⟨c0, c1⟩ := hw5
          go_simp
        simp only [List.getElem_toArray, List.getElem_cons_succ, List.getElem_cons_zero, Act.put, List.setIfInBounds_toArray, List.set_cons_zero, List.set_cons_succ]
        refine wpAnyH_take (i := 4) (v := .string ⟨nm.toArray⟩) rfl (by kernel_rfl) (by kernel_rfl) (by kernel_rfl) (fun _ _ _ h => h) (Or.inl ⟨by kernel_rfl, ?_⟩) HS ?_
        · intro w5 hw5
          obtain ⟨c0, c1⟩ := hw5
          go_simp
        simp only [List.getElem_toArray, List.getElem_cons_succ, List.getElem_cons_zero, Act.put, List.setIfInBounds_toArray, List.set_cons_zero, List.set_cons_succ]
        refine wpAnyH_take (i := 5) (v := .string ⟨v.toArray⟩) rfl (by kernel_rfl) (by kernel_rfl) (by kernel_rfl) (fun _ _ _ h => h) (Or.inl ⟨by kernel_rfl, ?_⟩) HS ?_
        · intro w5 hw5
          obtain ⟨c0, c1⟩ := hw5
          go_simp
        simp only [List.getElem_toArray, List.getElem_cons_succ, List.getElem_cons_zero, Act.put, List.setIfInBounds_toArray, List.set_cons_zero, List.set_cons_succ]
        refine wpAnyH_ready (rs := [6]) (by kernel_rfl) (by simp) ?_
        refine AllReadyH.cons rfl (fun K hK => ?_) AllReadyH.nil
        go_simp
        refine (HSM.out _).mono ?_
        rintro e w5 ⟨rfl, hk5⟩
        have K5 : Hid (Keeps [] wr w5) := Keeps.trans' ((Keeps.refl [] wr).drew) hk5
        clear hk5
        refine hK.out _ _ (HF.out _ K5.out) (fun HS => ?_)
        clear hK K
        refine wpAnyH_take (i := 7) (v := .bool false) rfl (by kernel_rfl) (by kernel_rfl) (by kernel_rfl) (fun _ _ _ h => h) (Or.inl ⟨by kernel_rfl, ?_⟩) HS ?_
        · intro w5 hw5
          obtain ⟨c0, c1⟩ := hw5
          go_simp
          first | done | (simp [hs1]; done) | (simp [hs3]; done) | (simp_all; done)
        simp only [List.getElem_toArray, List.getElem_cons_succ, List.getElem_cons_zero, Act.put, List.setIfInBounds_toArray, List.set_cons_zero, List.set_cons_succ]
        refine wpAnyH_done (by kernel_rfl) ?_ _
        go_wp2_with fail
        go_roundw
        case rel => exact ⟨j + 1, by go_num, by omega, HN2.out, HKR.out.trans' K5.out⟩
        case measure => simp [intOf]; omega
      · have heq : nm = z := by simpa using hr
        have HF2 := Lib.hid (find_some7 HUE.out heq HA.out)
        clear hr
        go_wp2_with fail
        refine wp_region_held_drew (S := (fun X => X.cell? ⟨b, o + j * 2, none⟩ = some (.string ⟨nm.toArray⟩) ∧ X.cell? ⟨b, o + j * 2 + 1, none⟩ = some (.slice aA an ac))) (by kernel_rfl) (HF.out _ ((Keeps.refl [] wr).drew)) ?_
        intro HS
        refine wpAnyH_take (i := 0) (v := .slice (some ⟨b, o, none⟩) n c) rfl (by kernel_rfl) (by kernel_rfl) (by kernel_rfl) (fun _ _ _ h => h) (Or.inl ⟨by kernel_rfl, ?_⟩) HS ?_
        · intro w5 hw5
          obtain ⟨c0, c1⟩ := hw5
          go_simp
        simp only [List.getElem_toArray, List.getElem_cons_succ, List.getElem_cons_zero, Act.put, List.setIfInBounds_toArray, List.set_cons_zero, List.set_cons_succ]
        refine wpAnyH_take (i := 1) (v := .int .i64 (j : Int)) rfl (by kernel_rfl) (by kernel_rfl) (by kernel_rfl) (fun _ _ _ h => h) (Or.inl ⟨by kernel_rfl, ?_⟩) HS ?_
        · intro w5 hw5
          obtain ⟨c0, c1⟩ := hw5
          go_simp
        simp only [List.getElem_toArray, List.getElem_cons_succ, List.getElem_cons_zero, Act.put, List.setIfInBounds_toArray, List.set_cons_zero, List.set_cons_succ]
        refine wpAnyH_take (i := 2) (v := .pointer (some ⟨b, o + j * 2, none⟩)) rfl (by kernel_rfl) (by kernel_rfl) (by kernel_rfl) (fun _ _ _ h => h) (Or.inl ⟨by kernel_rfl, ?_⟩) HS ?_
        · intro w5 hw5
          obtain ⟨c0, c1⟩ := hw5
          go_simp
        simp only [List.getElem_toArray, List.getElem_cons_succ, List.getElem_cons_zero, Act.put, List.setIfInBounds_toArray, List.set_cons_zero, List.set_cons_succ]
        refine wpAnyH_take (i := 3) (v := .pointer (some ⟨b, o + j * 2, none⟩)) rfl (by kernel_rfl) (by kernel_rfl) (by kernel_rfl) (fun _ _ _ h => h) (Or.inl ⟨by kernel_rfl, ?_⟩) HS ?_
        · intro w5 hw5
          obtain ⟨c0, c1⟩ := hw5
          go_simp
        simp only [List.getElem_toArray, List.getElem_cons_succ, List.getElem_cons_zero, Act.put, List.setIfInBounds_toArray, List.set_cons_zero, List.set_cons_succ]
        refine wpAnyH_take (i := 4) (v := .string ⟨nm.toArray⟩) rfl (by kernel_rfl) (by kernel_rfl) (by kernel_rfl) (fun _ _ _ h => h) (Or.inl ⟨by kernel_rfl, ?_⟩) HS ?_
        · intro w5 hw5
          obtain ⟨c0, c1⟩ := hw5
          go_simp
        simp only [List.getElem_toArray, List.getElem_cons_succ, List.getElem_cons_zero, Act.put, List.setIfInBounds_toArray, List.set_cons_zero, List.set_cons_succ]
        refine wpAnyH_take (i := 5) (v := .string ⟨v.toArray⟩) rfl (by kernel_rfl) (by kernel_rfl) (by kernel_rfl) (fun _ _ _ h => h) (Or.inl ⟨by kernel_rfl, ?_⟩) HS ?_
        · intro w5 hw5
          obtain ⟨c0, c1⟩ := hw5
          go_simp
        simp only [List.getElem_toArray, List.getElem_cons_succ, List.getElem_cons_zero, Act.put, List.setIfInBounds_toArray, List.set_cons_zero, List.set_cons_succ]
        refine wpAnyH_ready (rs := [6]) (by kernel_rfl) (by simp) ?_
        refine AllReadyH.cons rfl (fun K hK => ?_) AllReadyH.nil
        go_simp
        refine (HSM.out _).mono ?_
        rintro e w5 ⟨rfl, hk5⟩
        have K5 : Hid (Keeps [] wr w5) := Keeps.trans' ((Keeps.refl [] wr).drew) hk5
        clear hk5
        refine hK.out _ _ (HF.out _ K5.out) (fun HS => ?_)
        clear hK K
        refine wpAnyH_take (i := 7) (v := .bool true) rfl (by kernel_rfl) (by kernel_rfl) (by kernel_rfl) (fun _ _ _ h => h) (Or.inl ⟨by kernel_rfl, ?_⟩) HS ?_
        · intro w5 hw5
          obtain ⟨c0, c1⟩ := hw5
          go_simp
          first | done | (simp [hs1]; done) | (simp [hs3]; done) | (simp_all; done)
        simp only [List.getElem_toArray, List.getElem_cons_succ, List.getElem_cons_zero, Act.put, List.setIfInBounds_toArray, List.set_cons_zero, List.set_cons_succ]
        refine wpAnyH_done (by kernel_rfl) ?_ _
        obtain ⟨d0, d1⟩ := HF.out _ K5.out
        go_wp2_with fail
        go_ret
        have he : cont2 (ents l) z = avs := by unfold cont2; rw [HF2.out]; rfl
        rw [he]
        exact ⟨aA, ac, by rw [show avs.length = an from HFT.out.2]; rfl, .inr ⟨_, HFT.out.1, rfl, rfl, rfl⟩, HKR.out.trans' K5.out⟩
    · obtain rfl : j = n := by omega
      have h9 := HA.out
      rw [List.take_of_length_le (by rw [HEL.out]; exact Nat.le_refl _)] at h9
      have H9 := Lib.hid h9
      clear h9
      go_wp2_with fail
      go_ret
      have he : cont2 (ents l) z = [] := by unfold cont2; rw [H9.out]; rfl
      rw [he]
      exact ⟨none, 0, rfl, .inl ⟨rfl, rfl, rfl⟩, HKR.out⟩

theorem getp_fits {w : World} {B : Option Addr} {n c : Nat} {A : Option Addr} {l : List At7} {xs : List Txt} (h : EntIn w B n l) (h2 : (xs = [] ∧ A = none ∧ c = 0) ∨ ∃ a ∈ l, a.A = A ∧ a.c = c ∧ a.vs = xs) {k : Txt} (hk : k.length ≤ 9223372036854775807) : At7.fits w ⟨k, A, xs.length, c, xs⟩ := by
  rcases h2 with ⟨rfl, rfl, rfl⟩ | ⟨a, ha, rfl, rfl, rfl⟩
  · exact ⟨hk, Nat.le_refl _, Nat.zero_le _, StrsIn.nil _ _⟩
  · obtain ⟨_, h3, h4, h5⟩ := h.2.1 a ha
    refine ⟨hk, ?_, h4, ?_⟩
    · show a.vs.length ≤ a.c
      rw [h5.1]; exact h3
    · show StrsIn w a.A a.vs.length a.vs
      rw [h5.1]; exact h5
/-- Changes under way. -/
structure DifS (w wr : World) (A : Option Addr) (j c : Nat) (L : List Mod7) (e : List Chg7) : Prop where
  says : modsOf L = e
  len : L.length = j
  row : wr.ownsRow w.heap.size 49 3 (.slice A j c) j (mdCells L)
  fits : ∀ m ∈ L, m.a.fits w
  keep : Keeps [] w wr
theorem DifS.nil (w wr : World) (h : Keeps [] w wr) : DifS w wr none 0 0 [] [] := ⟨rfl, rfl, World.ownsRow_nil _ _ _ _, by simp, h⟩
theorem DifS.on {w wr W : World} {A : Option Addr} {m c : Nat} {L : List Mod7} {e : List Chg7} (h : DifS w wr A m c L e) (hk : Keeps [] wr W) : DifS w W A m c L e :=
  ⟨h.says, h.len, own_keep h.row hk (by simp), h.fits, h.keep.trans' hk⟩
theorem DifS.snoc {w wr W w6 : World} {A A6 : Option Addr} {m c c6 : Nat} {L : List Mod7} {e : List Chg7} (h : DifS w wr A m c L e) (x : Mod7) (hk : Keeps [] wr W) (hg : W.grownBy w6 (.slice A m c : Value).ownBlock) (ho : w6.ownsRow w.heap.size 49 3 (.slice A6 (m + 1) c6) (m + 1) (mdCells L ++ [.int .i64 x.k, tv x.a.name, x.a.val])) (hs : x.a.fits w) : DifS w w6 A6 (m + 1) c6 (L ++ [x]) (e ++ [x.mod]) :=
  ⟨by rw [← h.says]; simp [modsOf], by rw [List.length_append, h.len]; rfl, by rw [mdCells_snoc]; exact ho, fun y hy => by
    rcases List.mem_append.1 hy with hy | hy
    · exact h.fits y hy
    · rw [List.mem_singleton.1 hy]; exact hs, keeps_own7 (own_keep h.row hk (by simp)) (h.keep.trans' hk) hg⟩
/-- What a call answers that tells changes. -/
def ModA (E : List Chg7) (w : World) (e : Ending) (w' : World) : Prop := ∃ A n c, e = .returned (.slice A n c) ∧ ModQ E A n c w' ∧ Keeps [] w w'
theorem DifS.done {w wr : World} {A : Option Addr} {m c : Nat} {L : List Mod7} {e : List Chg7} (h : DifS w wr A m c L e) : ModA e w (.returned (.slice A m c)) wr :=
  ⟨A, m, c, rfl, ⟨L, h.says, ModIn.of_own h.row h.len (fun a ha => (h.fits a ha).grow h.keep), (own_caps h.row).1, (own_caps h.row).2, fun m hm => (h.fits m hm).2.2.2.1⟩, h.keep⟩
theorem names_tk {l : List At7} {j : Nat} {a : At7} (h : l[j]? = some a) : (namesT (ents l)).take (j + 1) = (namesT (ents l)).take j ++ [a.name] := by
  rw [List.take_add_one, show (namesT (ents l))[j]? = some a.name from by unfold namesT ents; simp [h, At7.att]]
  rfl
theorem wnames {x : Txt} {ys : List Txt} (v0 : List Txt) : (ys ++ [x]).foldl withR v0 = withR (ys.foldl withR v0) x := by rw [List.foldl_append]; rfl
theorem thaw3 {w : World} {g : Nat} {a b c : Value} {t : TypeId} (h : w.heap[g]? = some (.cells #[a, b, c] t (0, 0))) : w.frozen? ⟨g, 0, none⟩ = false ∧ w.frozen? ⟨g, 1, none⟩ = false ∧ w.frozen? ⟨g, 2, none⟩ = false := by
  unfold World.frozen?
  rw [h]
  exact ⟨rfl, rfl, rfl⟩
theorem cont2_len3 {w : World} {A : Option Addr} {n : Nat} {l : List At7} (h : EntIn w A n l) (hf : Few7 1000 l) (k : Txt) : (cont2 (ents l) k).length ≤ 1000 := by
  by_cases hk : cont2 (ents l) k = []
  · rw [hk]; simp
  · have h8 := cont2_ne hk
    unfold ents at h8
    obtain ⟨a, ha, he⟩ := List.mem_map.1 h8
    have h7 := hf.2 a ha
    rw [← (h.2.1 a ha).2.2.2.1] at h7
    have h6 : a.vs = cont2 (ents l) k := congrArg Prod.snd he
    rw [h6] at h7
    exact h7
set_option maxHeartbeats 16000000 in
theorem rdiff7_is (A B : Option Addr) (n c m d : Nat) (l l2 : List At7) (w : World) (h : EntIn w A n l) (hf : Few7 1000 l) (h2 : EntIn w B m l2) (hf2 : Few7 1000 l2) :
    Calls Tryz.prog 24 #[.slice A n c, .slice B m d] w (ModA (diffsP (ents l) (ents l2) (ordS (namesT (ents l) ++ namesT (ents l2)))) w) := by
  obtain ⟨iu, hiu, hzu0, hzu1, hzu2⟩ := info_parts mod_info7
  have HE1 := Lib.hid h
  have HE2 := Lib.hid h2
  have hn : n ≤ 1000 := by rw [← h.1]; exact hf.1
  have hm : m ≤ 1000 := by rw [← h2.1]; exact hf2.1
  have HN1 : Hid ((namesT (ents l)).length = n) := by show _ = _; unfold namesT; rw [List.length_map, ents_len, h.1]
  have HN2 : Hid ((namesT (ents l2)).length = m) := by show _ = _; unfold namesT; rw [List.length_map, ents_len, h2.1]
  have HG1 := Lib.hid (fun (X : World) (k : Txt) (hX : Keeps [] w X) (hk : k.length ≤ 9223372036854775807) => rgetp_is A n c l k X (EntIn.grow hX h) (by omega) hk)
  have HG2 := Lib.hid (fun (X : World) (k : Txt) (hX : Keeps [] w X) (hk : k.length ≤ 9223372036854775807) => rgetp_is B m d l2 k X (EntIn.grow hX h2) (by omega) hk)
  have HKS : Hid ((namesT (ents l2)).foldl withR ((namesT (ents l)).foldl withR []) = ordS (namesT (ents l) ++ namesT (ents l2))) := by
    show _ = _
    have h1 := withs_ord (namesT (ents l)) []
    rw [ordS_none, List.nil_append] at h1
    rw [h1, withs_ord]
  have HV1 : Hid (∀ k, (cont2 (ents l) k).length ≤ 1000) := cont2_len3 h hf
  have HV2 : Hid (∀ k, (cont2 (ents l2) k).length ≤ 1000) := cont2_len3 h2 hf2
  clear h h2 hf hf2
  go_enter Tryz.func24, Tryz.ntmps24
  go_wp2_with fail
  go_loopw [5, 6] (fun v i wq => ∃ (A9 : Option Addr) (c9 k q : Nat), v = .slice A9 k c9 ∧ i = .int .i64 (q : Int) ∧ q ≤ n ∧ Hid (k = (((namesT (ents l)).take q).foldl withR []).length) ∧ Hid (StrsIn wq A9 k (((namesT (ents l)).take q).foldl withR []) ∧ k ≤ c9 ∧ c9 ≤ 9223372036854775807) ∧ Hid (Keeps [] w wq)) (fun _ i _ => n - (intOf i).toNat)
  case atStart => exact ⟨none, 0, 0, 0, rfl, rfl, Nat.zero_le _, rfl, ⟨StrsIn.nil _ _, Nat.le_refl _, by omega⟩, Keeps.refl _ _⟩
  case round =>
    obtain ⟨A9, c9, k, q, rfl, rfl, hq, HM, HSQ, HKQ⟩ := hrel
    have hk9 : k ≤ 20000 := by
      have h9 := withs_len ((namesT (ents l)).take q) []
      rw [← HM.out, List.length_take] at h9
      simp at h9; omega
    by_cases hlq : q < n
    · obtain ⟨hl, hp, hc9⟩ := EntIn.grow HKQ.out HE1.out
      obtain ⟨b4, o4, hA4, hcc⟩ := hc9 (by omega)
      clear hc9
      subst hA4
      obtain ⟨a, hs⟩ : ∃ v, l[q]? = some v := ⟨_, List.getElem?_eq_getElem (by omega)⟩
      obtain ⟨v1, _⟩ := hcc q a hs
      have HWI := Lib.hid (rwith_is A9 k c9 _ a.name wr HSQ.out.1 (hp a (List.mem_of_getElem? hs)).1 (by omega))
      rw [← wnames, ← names_tk hs] at HWI
      unfold tv at v1 HWI
      have hqi : (q : Int) < (n : Int) := by omega
      have hq0 : (0 : Int) ≤ (q : Int) := by omega
      clear hl hp hcc hs
      go_wp2_with fail
      refine HWI.out.mono ?_
      rintro e w6 ⟨A6, c6, rfl, hs6, hc6, hd6, hk6⟩
      have HS6 : Hid (StrsIn w6 A6 (((namesT (ents l)).take (q + 1)).foldl withR []).length (((namesT (ents l)).take (q + 1)).foldl withR []) ∧ (((namesT (ents l)).take (q + 1)).foldl withR []).length ≤ c6 ∧ c6 ≤ 9223372036854775807) := ⟨hs6, hc6, hd6⟩
      have HK6 := Lib.hid (HKQ.out.trans' hk6)
      clear hs6 hc6 hd6 hk6
      go_wp2_with fail
      go_roundw
      case rel => exact ⟨A6, c6, _, q + 1, rfl, by go_num, by omega, rfl, HS6.out, HK6.out⟩
      case measure => simp [intOf]; omega
    · obtain rfl : n = q := by omega
      have h9 : (namesT (ents l)).take n = namesT (ents l) := List.take_of_length_le (by rw [HN1.out]; exact Nat.le_refl _)
      have hm1 := HM.out
      rw [h9] at hm1 HSQ
      have HVN : Hid (((namesT (ents l)).foldl withR []).length ≤ 1000) := by
        have h8 := withs_len (namesT (ents l)) []
        rw [HN1.out] at h8
        show _ ≤ _
        simp at h8
        omega
      obtain ⟨v0, hv0⟩ : ∃ v0, (namesT (ents l)).foldl withR [] = v0 := ⟨_, rfl⟩
      rw [hv0] at hm1 HSQ HKS HVN
      have HM1 := Lib.hid hm1
      clear h9 hv0 hm1 HM
      obtain ⟨U, hU⟩ : ∃ U : World, U = wr := ⟨_, rfl⟩
      subst hU
      go_wp2_with fail
      go_loopw [5, 7] (fun v i wq => ∃ (A9 : Option Addr) (c9 k q : Nat), v = .slice A9 k c9 ∧ i = .int .i64 (q : Int) ∧ q ≤ m ∧ Hid (k = (((namesT (ents l2)).take q).foldl withR v0).length) ∧ Hid (StrsIn wq A9 k (((namesT (ents l2)).take q).foldl withR v0) ∧ k ≤ c9 ∧ c9 ≤ 9223372036854775807) ∧ Hid (Keeps [] w wq)) (fun _ i _ => m - (intOf i).toNat)
      case atStart => exact ⟨A9, c9, k, 0, rfl, rfl, Nat.zero_le _, HM1.out, HSQ.out, HKQ.out⟩
      clear HM1 HSQ HKQ hk9 hq hlq
      case round =>
        obtain ⟨A9, c9, k, q, rfl, rfl, hq, HM, HSQ, HKQ⟩ := hrel
        have hk9 : k ≤ 20000 := by
          have h9 := withs_len ((namesT (ents l2)).take q) v0
          rw [← HM.out, List.length_take] at h9
          have h8 := HVN.out; omega
        by_cases hlq : q < m
        · obtain ⟨hl, hp, hc9⟩ := EntIn.grow HKQ.out HE2.out
          obtain ⟨b4, o4, hA4, hcc⟩ := hc9 (by omega)
          clear hc9
          subst hA4
          obtain ⟨a, hs⟩ : ∃ v, l2[q]? = some v := ⟨_, List.getElem?_eq_getElem (by omega)⟩
          obtain ⟨v1, _⟩ := hcc q a hs
          have HWI := Lib.hid (rwith_is A9 k c9 _ a.name wr HSQ.out.1 (hp a (List.mem_of_getElem? hs)).1 (by omega))
          rw [← wnames, ← names_tk hs] at HWI
          unfold tv at v1 HWI
          have hqi : (q : Int) < (m : Int) := by omega
          have hq0 : (0 : Int) ≤ (q : Int) := by omega
          clear hl hp hcc hs
          go_wp2_with fail
          refine HWI.out.mono ?_
          rintro e w6 ⟨A6, c6, rfl, hs6, hc6, hd6, hk6⟩
          have HS6 : Hid (StrsIn w6 A6 (((namesT (ents l2)).take (q + 1)).foldl withR v0).length (((namesT (ents l2)).take (q + 1)).foldl withR v0) ∧ (((namesT (ents l2)).take (q + 1)).foldl withR v0).length ≤ c6 ∧ c6 ≤ 9223372036854775807) := ⟨hs6, hc6, hd6⟩
          have HK6 := Lib.hid (HKQ.out.trans' hk6)
          clear hs6 hc6 hd6 hk6
          go_wp2_with fail
          go_roundw
          case rel => exact ⟨A6, c6, _, q + 1, rfl, by go_num, by omega, rfl, HS6.out, HK6.out⟩
          case measure => simp [intOf]; omega
        · obtain rfl : m = q := by omega
          have h9 : (namesT (ents l2)).take m = namesT (ents l2) := List.take_of_length_le (by rw [HN2.out]; exact Nat.le_refl _)
          have hm1 := HM.out
          rw [h9, HKS.out] at hm1 HSQ
          have hkl := ordS_len (namesT (ents l) ++ namesT (ents l2))
          rw [List.length_append, HN1.out, HN2.out] at hkl
          obtain ⟨ks, hks⟩ : ∃ ks, ordS (namesT (ents l) ++ namesT (ents l2)) = ks := ⟨_, rfl⟩
          rw [hks] at hm1 HSQ hkl
          have HKQS := Lib.hid hks
          have HKN : Hid (ks.length = k) := hm1.symm
          have hkn9 : k ≤ 2000 := by rw [hm1]; omega
          clear h9 hks hm1 HM hkl hk9 HKS HVN
          have HKQ7 := Lib.hid HKQ.out
          have HS7 := Lib.hid HSQ.out.1
          obtain ⟨W7, hU⟩ : ∃ U : World, U = wr := ⟨_, rfl⟩
          subst hU
          clear HSQ HKQ
          go_wp2_with fail
          go_loopw [8, 9] (fun v i wr => ∃ (A' : Option Addr) (c' p j : Nat) (L : List Mod7), v = .slice A' p c' ∧ i = .int .i64 (j : Int) ∧ j ≤ k ∧ p ≤ j ∧ Hid (DifS W7 wr A' p c' L (diffsP (ents l) (ents l2) (ks.take j)))) (fun _ i _ => k - (intOf i).toNat)
          case atStart => exact ⟨none, 0, 0, 0, [], rfl, rfl, Nat.zero_le _, Nat.le_refl _, DifS.nil W7 _ (Keeps.refl _ _)⟩
          case round =>
            obtain ⟨A', c', p, j, L, rfl, rfl, hj, hpj, HS⟩ := hrel
            by_cases hlt : j < k
            · obtain ⟨hl, hp, hc9⟩ := StrsIn.grow HS.out.keep HS7.out
              obtain ⟨b1, o, hA9, hcc⟩ := hc9 (by omega)
              clear hc9
              subst hA9
              obtain ⟨key, hu⟩ : ∃ k, ks[j]? = some k := ⟨_, List.getElem?_eq_getElem (by omega)⟩
              have c0 := hcc j key hu
              have hkl := hp key (List.mem_of_getElem? hu)
              have HKL := Lib.hid hkl
              have HD1 := Lib.hid (fun he => diffs_same (a := ents l) (b := ents l2) hu he)
              have HD2 := Lib.hid (fun he => diffs_more (a := ents l) (b := ents l2) hu he)
              have HGA := Lib.hid (fun X (hX : Keeps [] w X) => HG1.out X key hX hkl)
              have HGB := Lib.hid (fun X (hX : Keeps [] w X) => HG2.out X key hX hkl)
              have ha1 := HV1.out (smallL key)
              have hb1 := HV2.out (smallL key)
              unfold diffK at HD2
              obtain ⟨va, hva⟩ : ∃ v, cont2 (ents l) (smallL key) = v := ⟨_, rfl⟩
              obtain ⟨vb, hvb⟩ : ∃ v, cont2 (ents l2) (smallL key) = v := ⟨_, rfl⟩
              rw [hva] at HD1 HD2 HGA ha1
              rw [hvb] at HD1 HD2 HGB hb1
              unfold GetP at HGA HGB
              obtain ⟨an, han⟩ : ∃ n, va.length = n := ⟨_, rfl⟩
              obtain ⟨bn, hbn⟩ : ∃ n, vb.length = n := ⟨_, rfl⟩
              have HAN := Lib.hid han
              have HBN := Lib.hid hbn
              rw [han] at HD2 HGA ha1
              rw [hbn] at HD2 HGB hb1
              unfold tv at c0 HGA HGB
              have hji : (j : Int) < (k : Int) := by omega
              have hj0 : (0 : Int) ≤ (j : Int) := by omega
              have HF : Hid (∀ X, Keeps [] wr X → X.cell? ⟨b1, o + j, none⟩ = some (.string ⟨key.toArray⟩)) := fun X hX => (hX.cell (lt_of_cell c0) (by simp)).trans c0
              clear hcc hu hp hl hkl hva hvb han hbn c0
              go_wp2_with fail
              refine wp_region_held_drew (S := (fun X => X.cell? ⟨b1, o + j, none⟩ = some (.string ⟨key.toArray⟩))) (by kernel_rfl) (HF.out _ ((Keeps.refl [] wr).drew)) ?_
              intro HS9
              refine wpAnyH_take (i := 0) (v := .slice A n c) rfl (by kernel_rfl) (by kernel_rfl) (by kernel_rfl) (fun _ _ _ h => h) (Or.inl ⟨by kernel_rfl, ?_⟩) HS9 ?_
              · intro w5 hw5
                obtain c0 := hw5
                go_simp
              simp only [List.getElem_toArray, List.getElem_cons_succ, List.getElem_cons_zero, Act.put, List.setIfInBounds_toArray, List.set_cons_zero, List.set_cons_succ]
              refine wpAnyH_take (i := 1) (v := .slice (some ⟨b1, o, none⟩) k c9) rfl (by kernel_rfl) (by kernel_rfl) (by kernel_rfl) (fun _ _ _ h => h) (Or.inl ⟨by kernel_rfl, ?_⟩) HS9 ?_
              · intro w5 hw5
                obtain c0 := hw5
                go_simp
              simp only [List.getElem_toArray, List.getElem_cons_succ, List.getElem_cons_zero, Act.put, List.setIfInBounds_toArray, List.set_cons_zero, List.set_cons_succ]
              refine wpAnyH_take (i := 2) (v := .int .i64 (j : Int)) rfl (by kernel_rfl) (by kernel_rfl) (by kernel_rfl) (fun _ _ _ h => h) (Or.inl ⟨by kernel_rfl, ?_⟩) HS9 ?_
              · intro w5 hw5
                obtain c0 := hw5
                go_simp
              simp only [List.getElem_toArray, List.getElem_cons_succ, List.getElem_cons_zero, Act.put, List.setIfInBounds_toArray, List.set_cons_zero, List.set_cons_succ]
              refine wpAnyH_take (i := 3) (v := .pointer (some ⟨b1, o + j, none⟩)) rfl (by kernel_rfl) (by kernel_rfl) (by kernel_rfl) (fun _ _ _ h => h) (Or.inl ⟨by kernel_rfl, ?_⟩) HS9 ?_
              · intro w5 hw5
                obtain c0 := hw5
                go_simp
              simp only [List.getElem_toArray, List.getElem_cons_succ, List.getElem_cons_zero, Act.put, List.setIfInBounds_toArray, List.set_cons_zero, List.set_cons_succ]
              refine wpAnyH_take (i := 4) (v := .string ⟨key.toArray⟩) rfl (by kernel_rfl) (by kernel_rfl) (by kernel_rfl) (fun _ _ _ h => h) (Or.inl ⟨by kernel_rfl, ?_⟩) HS9 ?_
              · intro w5 hw5
                obtain c0 := hw5
                go_simp
              simp only [List.getElem_toArray, List.getElem_cons_succ, List.getElem_cons_zero, Act.put, List.setIfInBounds_toArray, List.set_cons_zero, List.set_cons_succ]
              refine wpAnyH_take (i := 6) (v := .slice B m d) rfl (by kernel_rfl) (by kernel_rfl) (by kernel_rfl) (fun _ _ _ h => h) (Or.inl ⟨by kernel_rfl, ?_⟩) HS9 ?_
              · intro w5 hw5
                obtain c0 := hw5
                go_simp
              simp only [List.getElem_toArray, List.getElem_cons_succ, List.getElem_cons_zero, Act.put, List.setIfInBounds_toArray, List.set_cons_zero, List.set_cons_succ]
              refine wpAnyH_take (i := 7) (v := .slice (some ⟨b1, o, none⟩) k c9) rfl (by kernel_rfl) (by kernel_rfl) (by kernel_rfl) (fun _ _ _ h => h) (Or.inl ⟨by kernel_rfl, ?_⟩) HS9 ?_
              · intro w5 hw5
                obtain c0 := hw5
                go_simp
              simp only [List.getElem_toArray, List.getElem_cons_succ, List.getElem_cons_zero, Act.put, List.setIfInBounds_toArray, List.set_cons_zero, List.set_cons_succ]
              refine wpAnyH_take (i := 8) (v := .int .i64 (j : Int)) rfl (by kernel_rfl) (by kernel_rfl) (by kernel_rfl) (fun _ _ _ h => h) (Or.inl ⟨by kernel_rfl, ?_⟩) HS9 ?_
              · intro w5 hw5
                obtain c0 := hw5
                go_simp
              simp only [List.getElem_toArray, List.getElem_cons_succ, List.getElem_cons_zero, Act.put, List.setIfInBounds_toArray, List.set_cons_zero, List.set_cons_succ]
              refine wpAnyH_take (i := 9) (v := .pointer (some ⟨b1, o + j, none⟩)) rfl (by kernel_rfl) (by kernel_rfl) (by kernel_rfl) (fun _ _ _ h => h) (Or.inl ⟨by kernel_rfl, ?_⟩) HS9 ?_
              · intro w5 hw5
                obtain c0 := hw5
                go_simp
              simp only [List.getElem_toArray, List.getElem_cons_succ, List.getElem_cons_zero, Act.put, List.setIfInBounds_toArray, List.set_cons_zero, List.set_cons_succ]
              refine wpAnyH_take (i := 10) (v := .string ⟨key.toArray⟩) rfl (by kernel_rfl) (by kernel_rfl) (by kernel_rfl) (fun _ _ _ h => h) (Or.inl ⟨by kernel_rfl, ?_⟩) HS9 ?_
              · intro w5 hw5
                obtain c0 := hw5
                go_simp
              simp only [List.getElem_toArray, List.getElem_cons_succ, List.getElem_cons_zero, Act.put, List.setIfInBounds_toArray, List.set_cons_zero, List.set_cons_succ]
              refine wpAnyH_ready (rs := [5]) (by kernel_rfl) (by simp) ?_
              refine AllReadyH.cons rfl (fun K hK => ?_) AllReadyH.nil
              go_simp
              refine (HGA.out _ (HKQ7.out.trans' (HS.out.keep.trans' ((Keeps.refl [] wr).drew)))).mono ?_
              rintro e x1 ⟨B1, d1, rfl, hp1, hk1⟩
              have KX1 : Hid (Keeps [] wr x1) := Keeps.trans' ((Keeps.refl [] wr).drew) hk1
              clear hk1
              refine hK.out _ _ (HF.out _ KX1.out) (fun HS9 => ?_)
              clear hK K
              refine wpAnyH_ready (rs := [11]) (by kernel_rfl) (by simp) ?_
              refine AllReadyH.cons rfl (fun K hK => ?_) AllReadyH.nil
              go_simp
              refine (HGB.out _ (HKQ7.out.trans' (HS.out.keep.trans' KX1.out))).mono ?_
              rintro e x2 ⟨B2, d2, rfl, hp2, hk2⟩
              have KX2 : Hid (Keeps [] wr x2) := KX1.out.trans' hk2
              clear hk2
              refine hK.out _ _ (HF.out _ KX2.out) (fun HS9 => ?_)
              clear hK K
              refine wpAnyH_take (i := 12) (v := .slice B1 an d1) rfl (by kernel_rfl) (by kernel_rfl) (by kernel_rfl) (fun _ _ _ h => h) (Or.inl ⟨by kernel_rfl, ?_⟩) HS9 ?_
              · intro w5 hw5
                obtain c0 := hw5
                go_simp
              simp only [List.getElem_toArray, List.getElem_cons_succ, List.getElem_cons_zero, Act.put, List.setIfInBounds_toArray, List.set_cons_zero, List.set_cons_succ]
              refine wpAnyH_take (i := 13) (v := .slice B2 bn d2) rfl (by kernel_rfl) (by kernel_rfl) (by kernel_rfl) (fun _ _ _ h => h) (Or.inl ⟨by kernel_rfl, ?_⟩) HS9 ?_
              · intro w5 hw5
                obtain c0 := hw5
                go_simp
              simp only [List.getElem_toArray, List.getElem_cons_succ, List.getElem_cons_zero, Act.put, List.setIfInBounds_toArray, List.set_cons_zero, List.set_cons_succ]
              refine wpAnyH_done (by kernel_rfl) ?_ _
              have c0 := HF.out _ KX2.out
              have HAF : Hid (At7.fits W7 ⟨key, B1, an, d1, va⟩) := by
                have h9 := getp_fits HE1.out hp1 (k := key) HKL.out
                rw [HAN.out] at h9
                exact h9.grow HKQ7.out
              have HBF : Hid (At7.fits W7 ⟨key, B2, bn, d2, vb⟩) := by
                have h9 := getp_fits HE2.out hp2 (k := key) HKL.out
                rw [HBN.out] at h9
                exact h9.grow HKQ7.out
              clear HGA HGB hp1 hp2 HS9
              have HKX : Hid (Keeps [] wr (x2.alloc (.cells #[.int .i64 3, .string ⟨key.toArray⟩, .slice B2 bn d2] 49))) := KX2.out.alloc _
              have hbx := heap_new8 x2 (.cells #[.int .i64 3, .string ⟨key.toArray⟩, .slice B2 bn d2] 49)
              obtain ⟨X3, hX3⟩ : ∃ X3, x2.alloc (.cells #[.int .i64 3, .string ⟨key.toArray⟩, .slice B2 bn d2] 49) = X3 := ⟨_, rfl⟩
              rw [hX3] at HKX hbx
              have HTX := Lib.hid (rtexts_is B1 B2 an bn d1 d2 va vb X3 (StrsIn.grow (HS.out.keep.trans' HKX.out) HAF.out.2.2.2) (StrsIn.grow (HS.out.keep.trans' HKX.out) HBF.out.2.2.2) (by omega))
              obtain ⟨r, hr⟩ : ∃ r, (va == vb) = r := ⟨_, rfl⟩
              rw [hr] at HTX HD1 HD2
              have HBX := Lib.hid (fun Y (hY : Keeps [] X3 Y) => And.intro (cells3 (blk_keep hbx hY (by simp))) (thaw3 (blk_keep hbx hY (by simp))))
              obtain ⟨⟨g0, g1, g2⟩, gf, gf1, gf2⟩ := HBX.out X3 (Keeps.refl _ _)
              have hzx : wr.heap.size ≤ x2.heap.size := KX2.out.size
              clear hr hbx
              go_wp2_with fail
              refine HTX.out.mono ?_
              rintro e x4 ⟨rfl, hk4⟩
              have KX4 : Hid (Keeps [] wr x4) := HKX.out.trans' hk4
              have c0 := HF.out _ KX4.out
              have HG4 := Lib.hid (HBX.out x4 hk4)
              clear hk4 g0 g1 g2 gf gf1 gf2 HTX
              obtain ⟨⟨g0, g1, g2⟩, gf, gf1, gf2⟩ := HG4.out
              cases r
              · have HDM := Lib.hid (HD2.out (by first | exact trivial | rfl))
                have hp5 : p ≤ 2000 := by omega
                unfold kindP at HDM
                by_cases hb0 : bn = 0
                · rw [if_pos hb0] at HDM
                  subst hb0
                  have KX5 : Hid (Keeps [] wr (x4.setCell ⟨x2.heap.size, 0, none⟩ (.int .i64 2))) := KX4.out.setCell (.inr hzx) _
                  have HSC : Hid (Src ((x4.setCell ⟨x2.heap.size, 0, none⟩ (.int .i64 2)).alloc (.cells #[.int .i64 2, .string ⟨key.toArray⟩, .slice B2 0 d2] 49)) (some ⟨x4.heap.size, 0, none⟩) 1 [.int .i64 2, tv key, .slice B2 0 d2]) := by
                    have h9 := src_md7 (x4.setCell ⟨x2.heap.size, 0, none⟩ (.int .i64 2)) ⟨2, ⟨key, B2, 0, d2, vb⟩⟩ 49
                    first | exact h9 | (rw [show (x4.setCell ⟨x2.heap.size, 0, none⟩ (.int .i64 2)).heap.size = x4.heap.size from by simp] at h9; exact h9)
                  go_wp2_with (at_builtin; refine wpList_append_opt rfl (.tmp 74) (.tmp 76) 24 rfl W7.heap.size 49 iu _ 3 48 Tryz.underlying24 hiu hzu0 hzu1 hzu2 rfl (by decide) (.slice A' p c') p (mdCells L) rfl (own_keep HS.out.row ((KX5.out).alloc _) (by simp)) (some ⟨x4.heap.size, 0, none⟩) 1 1 [.int .i64 2, tv key, .slice B2 0 d2] rfl rfl HSC.out (by intro u hu; simp at hu; rcases hu with rfl | rfl | rfl <;> rfl) (by unfold maxLen; omega) (by omega) (by have h9 := (HS.out.keep.trans' KX5.out).size; simp at h9 ⊢; omega) ?_; intro v8 w8 ho8 hg8 hs8; obtain ⟨A8, c8, hv8⟩ := own_slice ho8; subst hv8; have HX8 := Lib.hid (HS.out.snoc ⟨2, ⟨key, B2, 0, d2, vb⟩⟩ ((KX5.out).alloc _) hg8 ho8 HBF.out); clear ho8 hg8 hs8)
                  go_roundw
                  case rel => exact ⟨A8, c8, p + 1, j + 1, _, rfl, by go_num, by omega, by omega, by
                    show DifS _ _ _ _ _ _ _
                    rw [HDM.out]
                    exact HX8.out⟩
                  case measure => simp [intOf]; omega
                · rw [if_neg hb0] at HDM
                  have hb0i : ¬ (bn : Int) = 0 := by omega
                  have hb0b : ((bn : Int) == 0) = false := by simpa using hb0
                  by_cases ha0 : an = 0
                  · rw [if_pos ha0] at HDM
                    subst ha0
                    have KX5 : Hid (Keeps [] wr (x4.setCell ⟨x2.heap.size, 0, none⟩ (.int .i64 1))) := KX4.out.setCell (.inr hzx) _
                    have HSC : Hid (Src ((x4.setCell ⟨x2.heap.size, 0, none⟩ (.int .i64 1)).alloc (.cells #[.int .i64 1, .string ⟨key.toArray⟩, .slice B2 bn d2] 49)) (some ⟨x4.heap.size, 0, none⟩) 1 [.int .i64 1, tv key, .slice B2 bn d2]) := by
                      have h9 := src_md7 (x4.setCell ⟨x2.heap.size, 0, none⟩ (.int .i64 1)) ⟨1, ⟨key, B2, bn, d2, vb⟩⟩ 49
                      first | exact h9 | (rw [show (x4.setCell ⟨x2.heap.size, 0, none⟩ (.int .i64 1)).heap.size = x4.heap.size from by simp] at h9; exact h9)
                    go_wp2_with (at_builtin; refine wpList_append_opt rfl (.tmp 74) (.tmp 76) 24 rfl W7.heap.size 49 iu _ 3 48 Tryz.underlying24 hiu hzu0 hzu1 hzu2 rfl (by decide) (.slice A' p c') p (mdCells L) rfl (own_keep HS.out.row ((KX5.out).alloc _) (by simp)) (some ⟨x4.heap.size, 0, none⟩) 1 1 [.int .i64 1, tv key, .slice B2 bn d2] rfl rfl HSC.out (by intro u hu; simp at hu; rcases hu with rfl | rfl | rfl <;> rfl) (by unfold maxLen; omega) (by omega) (by have h9 := (HS.out.keep.trans' KX5.out).size; simp at h9 ⊢; omega) ?_; intro v8 w8 ho8 hg8 hs8; obtain ⟨A8, c8, hv8⟩ := own_slice ho8; subst hv8; have HX8 := Lib.hid (HS.out.snoc ⟨1, ⟨key, B2, bn, d2, vb⟩⟩ ((KX5.out).alloc _) hg8 ho8 HBF.out); clear ho8 hg8 hs8)
                    go_roundw
                    case rel => exact ⟨A8, c8, p + 1, j + 1, _, rfl, by go_num, by omega, by omega, by
                      show DifS _ _ _ _ _ _ _
                      rw [HDM.out]
                      exact HX8.out⟩
                    case measure => simp [intOf]; omega
                  · rw [if_neg ha0] at HDM
                    have ha0i : ¬ (an : Int) = 0 := by omega
                    have ha0b : ((an : Int) == 0) = false := by simpa using ha0
                    have HSC : Hid (Src ((x4).alloc (.cells #[.int .i64 3, .string ⟨key.toArray⟩, .slice B2 bn d2] 49)) (some ⟨x4.heap.size, 0, none⟩) 1 [.int .i64 3, tv key, .slice B2 bn d2]) := by
                      have h9 := src_md7 (x4) ⟨3, ⟨key, B2, bn, d2, vb⟩⟩ 49
                      first | exact h9 | (rw [show (x4).heap.size = x4.heap.size from by simp] at h9; exact h9)
                    go_wp2_with (at_builtin; refine wpList_append_opt rfl (.tmp 74) (.tmp 76) 24 rfl W7.heap.size 49 iu _ 3 48 Tryz.underlying24 hiu hzu0 hzu1 hzu2 rfl (by decide) (.slice A' p c') p (mdCells L) rfl (own_keep HS.out.row ((KX4.out).alloc _) (by simp)) (some ⟨x4.heap.size, 0, none⟩) 1 1 [.int .i64 3, tv key, .slice B2 bn d2] rfl rfl HSC.out (by intro u hu; simp at hu; rcases hu with rfl | rfl | rfl <;> rfl) (by unfold maxLen; omega) (by omega) (by have h9 := (HS.out.keep.trans' KX4.out).size; simp at h9 ⊢; omega) ?_; intro v8 w8 ho8 hg8 hs8; obtain ⟨A8, c8, hv8⟩ := own_slice ho8; subst hv8; have HX8 := Lib.hid (HS.out.snoc ⟨3, ⟨key, B2, bn, d2, vb⟩⟩ ((KX4.out).alloc _) hg8 ho8 HBF.out); clear ho8 hg8 hs8)
                    go_roundw
                    case rel => exact ⟨A8, c8, p + 1, j + 1, _, rfl, by go_num, by omega, by omega, by
                      show DifS _ _ _ _ _ _ _
                      rw [HDM.out]
                      exact HX8.out⟩
                    case measure => simp [intOf]; omega
              · have HDM := Lib.hid (HD1.out (by first | exact trivial | rfl))
                go_wp2_with fail
                go_roundw
                case rel => exact ⟨A', c', p, j + 1, L, rfl, by go_num, by omega, by omega, by
                  show DifS _ _ _ _ _ _ _
                  rw [HDM.out]
                  exact HS.out.on KX4.out⟩
                case measure => simp [intOf]; omega
            · obtain rfl : j = k := by omega
              have h9 := HS.out
              rw [List.take_of_length_le (by rw [HKN.out]; exact Nat.le_refl _)] at h9
              have H9 := Lib.hid h9
              clear h9
              go_wp2_with fail
              go_ret
              obtain ⟨A8, n8, c8, e1, e2, e3⟩ := H9.out.done
              rw [HKQS.out]
              exact ⟨A8, n8, c8, e1, e2, HKQ7.out.trans' e3⟩
end Go.Proofs.YtfjlcfbomlfpfaaGreatDoor
