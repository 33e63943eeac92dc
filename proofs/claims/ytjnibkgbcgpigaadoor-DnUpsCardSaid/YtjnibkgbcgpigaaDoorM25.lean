/- Texts of one proof, laid together: N43. -/
import Derived.Test.YtjnibkgbcgpigaaDoorM08
import Derived.Test.YtjnibkgbcgpigaaDoorM22
import Derived.Test.YtjnibkgbcgpigaaDoorM04
/- dn: the document's Right; walked. -/
namespace Go.Proofs.YtjnibkgbcgpigaaDoor
open Go.RowKit Go.Shelf
set_option linter.unusedVariables false
set_option linter.unusedSimpArgs false
set_option maxRecDepth 100000

set_option maxHeartbeats 16000000 in
theorem rright_is (A : Option Addr) (n c : Nat) (d : List Part6) (w : World) (hn : n ≤ 4611686018427387904) (h : DnIn w A n d) :
    Calls Tryd.prog 13 #[.slice A n c] w fun e w' => e = .returned (.bool (nameOk d)) ∧ Keeps [] w w' := by
  have HD := Lib.hid h
  obtain ⟨r, hr⟩ : ∃ r, nameOk d = r := ⟨_, rfl⟩
  rw [hr]
  unfold nameOk at hr
  rw [h.1] at hr
  clear h
  rcases Nat.lt_or_ge 16 n with h1 | h1
  · obtain rfl : r = false := by rw [← hr, show decide (n ≤ 16) = false by simp; omega]; rfl
    have hg : (16 : Int) < (n : Int) := by omega
    clear h1 hr hn
    go_enter Tryd.func13, Tryd.ntmps13
    go_wp2_with fail
    go_ret
    exact ⟨rfl, Keeps.refl _ _⟩
  have hg : ¬ (16 : Int) < (n : Int) := by omega
  have HR : Hid (d.all partOk = r) := by show _ = _; rw [← hr, show decide (n ≤ 16) = true by simp; omega]; rfl
  clear hr hn
  go_enter Tryd.func13, Tryd.ntmps13
  go_wp2_with fail
  go_loopw [3] (fun i wr => ∃ j : Nat, i = .int .i64 (j : Int) ∧ j ≤ n ∧ Hid ((d.take j).all partOk = true) ∧ Hid (Keeps [] w wr)) (fun i _ => n - (intOf i).toNat)
  case atStart => exact ⟨0, rfl, Nat.zero_le _, rfl, Keeps.refl _ _⟩
  case round =>
    obtain ⟨j, rfl, hj, HA, HKR⟩ := hrel
    by_cases hlt : j < n
    · obtain ⟨hl, hp, hc9⟩ := HD.out.grow HKR.out
      obtain ⟨b, o, hA9, hcc⟩ := hc9 (by omega)
      clear hc9
      subst hA9
      obtain ⟨p, hu⟩ : ∃ p, d[j]? = some p := ⟨_, List.getElem?_eq_getElem (by omega)⟩
      obtain ⟨c0, c1⟩ := hcc j p hu
      have hpp := hp p (List.mem_of_getElem? hu)
      have HT := Lib.hid (all_take2 (p := partOk) hu)
      have HC := Lib.hid (fun h => all_cut2 (p := partOk) hu h)
      obtain ⟨q, hq⟩ : ∃ q, partOk p = q := ⟨_, rfl⟩
      rw [hq] at HT HC
      obtain ⟨s, v⟩ := p
      unfold partOk at hq
      rw [type_name] at hq
      dsimp only at c0 c1 hq hpp
      unfold tv at c0 c1
      have hji : (j : Int) < (n : Int) := by omega
      have HNM := Lib.hid (fun X => rname_is s X hpp.1)
      have HSM := Lib.hid (fun X => rsmall_is s X hpp.1)
      have HF : Hid (∀ X, Keeps [] wr X → X.cell? ⟨b, o + j * 2, none⟩ = some (.string ⟨s.toArray⟩) ∧ X.cell? ⟨b, o + j * 2 + 1, none⟩ = some (.string ⟨v.toArray⟩)) := fun X hk => ⟨(hk.cell (lt_of_cell c0) (by simp)).trans c0, (hk.cell (lt_of_cell c1) (by simp)).trans c1⟩
      obtain ⟨nm, hnm⟩ : ∃ nm, nameT s = nm := ⟨_, rfl⟩
      rw [hnm] at HNM hq
      clear hcc hu hp hl hpp hnm
      cases nm
      · obtain rfl : q = false := by rw [← hq]; rfl
        clear hq
        go_wp2_with fail
        go_quiet (first | (go_at_call 32; refine Calls.quiet_of_same ((HNM.out _).mono fun e w1 hh => ⟨hh.1, hh.2.symm⟩)))
        go_wp2_with fail
        go_ret
        exact ⟨by rw [← HR.out, HC.out (by first | exact trivial | rfl)]; rfl, HKR.out.drewN _⟩
      · rcases Nat.eq_zero_or_pos v.length with h0 | h0
        · have hve : v = [] := List.length_eq_zero_iff.1 h0
          subst hve
          obtain rfl : q = false := by rw [← hq]; simp
          clear hq h0
          go_wp2_with fail
          go_quiet (first | (go_at_call 32; refine Calls.quiet_of_same ((HNM.out _).mono fun e w1 hh => ⟨hh.1, hh.2.symm⟩)))
          go_wp2_with fail
          go_ret
          exact ⟨by rw [← HR.out, HC.out (by first | exact trivial | rfl)]; rfl, HKR.out.drewN _⟩
        · have g1 : ¬ (v.length : Int) < 1 := by omega
          have g1b : decide ((v.length : Int) < 1) = false := by simp; omega
          rcases Nat.lt_or_ge 200 v.length with h3 | h3
          · obtain rfl : q = false := by rw [← hq, show decide (v.length ≤ 200) = false by simp; omega]; simp
            have g2 : (200 : Int) < (v.length : Int) := by omega
            have g2b : decide ((200 : Int) < (v.length : Int)) = true := by simp; omega
            clear hq h0 h3
            go_wp2_with fail
            go_quiet (first | (go_at_call 32; refine Calls.quiet_of_same ((HNM.out _).mono fun e w1 hh => ⟨hh.1, hh.2.symm⟩)))
            go_wp2_with fail
            go_ret
            exact ⟨by rw [← HR.out, HC.out (by first | exact trivial | rfl)]; rfl, HKR.out.drewN _⟩
          · have g2 : ¬ (200 : Int) < (v.length : Int) := by omega
            have g2b : decide ((200 : Int) < (v.length : Int)) = false := by simp; omega
            have hq2 : (smallL s == s) = q := by rw [← hq, show decide (v.length ≤ 200) = true by simp; omega, show decide (1 ≤ v.length) = true by simp; omega]; simp
            obtain ⟨z, hz⟩ : ∃ z, smallL s = z := ⟨_, rfl⟩
            rw [hz] at HSM hq2
            have hq3 : (z != s) = !q := by rw [← hq2]; rfl
            have HW := Lib.hid HKR.out
            clear hq h0 h3 hz hq3
            go_wp2_with fail
            refine wp_region_held_drew (S := (fun X => X.cell? ⟨b, o + j * 2, none⟩ = some (.string ⟨s.toArray⟩) ∧ X.cell? ⟨b, o + j * 2 + 1, none⟩ = some (.string ⟨v.toArray⟩))) (by kernel_rfl) (HF.out _ ((Keeps.refl [] wr).drew)) ?_
            intro HS
            refine wpAnyH_take (i := 0) (v := .slice (some ⟨b, o, none⟩) n c) rfl (by kernel_rfl) (by kernel_rfl) (by kernel_rfl) (fun _ _ _ h => h) (Or.inl ⟨by kernel_rfl, ?_⟩) HS ?_
            · intro w5 hw5
              obtain ⟨d0, d1⟩ := hw5
              go_simp
            simp only [Act.put, List.setIfInBounds_toArray, List.set_cons_zero, List.set_cons_succ]
            refine wpAnyH_take (i := 1) (v := .int .i64 (j : Int)) rfl (by kernel_rfl) (by kernel_rfl) (by kernel_rfl) (fun _ _ _ h => h) (Or.inl ⟨by kernel_rfl, ?_⟩) HS ?_
            · intro w5 hw5
              obtain ⟨d0, d1⟩ := hw5
              go_simp
            simp only [Act.put, List.setIfInBounds_toArray, List.set_cons_zero, List.set_cons_succ]
            refine wpAnyH_take (i := 2) (v := .pointer (some ⟨b, o + j * 2, none⟩)) rfl (by kernel_rfl) (by kernel_rfl) (by kernel_rfl) (fun _ _ _ h => h) (Or.inl ⟨by kernel_rfl, ?_⟩) HS ?_
            · intro w5 hw5
              obtain ⟨d0, d1⟩ := hw5
              go_simp
            simp only [Act.put, List.setIfInBounds_toArray, List.set_cons_zero, List.set_cons_succ]
            refine wpAnyH_take (i := 3) (v := .pointer (some ⟨b, o + j * 2, none⟩)) rfl (by kernel_rfl) (by kernel_rfl) (by kernel_rfl) (fun _ _ _ h => h) (Or.inl ⟨by kernel_rfl, ?_⟩) HS ?_
            · intro w5 hw5
              obtain ⟨d0, d1⟩ := hw5
              go_simp
            simp only [Act.put, List.setIfInBounds_toArray, List.set_cons_zero, List.set_cons_succ]
            refine wpAnyH_take (i := 4) (v := .string ⟨s.toArray⟩) rfl (by kernel_rfl) (by kernel_rfl) (by kernel_rfl) (fun _ _ _ h => h) (Or.inl ⟨by kernel_rfl, ?_⟩) HS ?_
            · intro w5 hw5
              obtain ⟨d0, d1⟩ := hw5
              go_simp
            simp only [Act.put, List.setIfInBounds_toArray, List.set_cons_zero, List.set_cons_succ]
            refine wpAnyH_ready (rs := [5]) (by kernel_rfl) (by simp) ?_
            refine AllReadyH.cons rfl (fun K hK => ?_) AllReadyH.nil
            go_simp
            refine (HNM.out _).mono ?_
            rintro e w1 ⟨rfl, rfl⟩
            refine hK.out _ _ (HF.out _ ((Keeps.refl [] wr).drew)) (fun HS => ?_)
            clear hK K
            refine wpAnyH_take (i := 6) (v := .bool false) rfl (by kernel_rfl) (by kernel_rfl) (by kernel_rfl) (fun _ _ _ h => h) (Or.inl ⟨by kernel_rfl, ?_⟩) HS ?_
            · intro w5 hw5
              obtain ⟨d0, d1⟩ := hw5
              go_simp
            simp only [Act.put, List.setIfInBounds_toArray, List.set_cons_zero, List.set_cons_succ]
            refine wpAnyH_take (i := 7) (v := .bool false) rfl (by kernel_rfl) (by kernel_rfl) (by kernel_rfl) (fun _ _ _ h => h) (Or.inl ⟨by kernel_rfl, ?_⟩) HS ?_
            · intro w5 hw5
              obtain ⟨d0, d1⟩ := hw5
              go_simp
            simp only [Act.put, List.setIfInBounds_toArray, List.set_cons_zero, List.set_cons_succ]
            refine wpAnyH_take (i := 8) (v := .slice (some ⟨b, o, none⟩) n c) rfl (by kernel_rfl) (by kernel_rfl) (by kernel_rfl) (fun _ _ _ h => h) (Or.inl ⟨by kernel_rfl, ?_⟩) HS ?_
            · intro w5 hw5
              obtain ⟨d0, d1⟩ := hw5
              go_simp
            simp only [Act.put, List.setIfInBounds_toArray, List.set_cons_zero, List.set_cons_succ]
            refine wpAnyH_take (i := 9) (v := .int .i64 (j : Int)) rfl (by kernel_rfl) (by kernel_rfl) (by kernel_rfl) (fun _ _ _ h => h) (Or.inl ⟨by kernel_rfl, ?_⟩) HS ?_
            · intro w5 hw5
              obtain ⟨d0, d1⟩ := hw5
              go_simp
            simp only [Act.put, List.setIfInBounds_toArray, List.set_cons_zero, List.set_cons_succ]
            refine wpAnyH_take (i := 10) (v := .pointer (some ⟨b, o + j * 2, none⟩)) rfl (by kernel_rfl) (by kernel_rfl) (by kernel_rfl) (fun _ _ _ h => h) (Or.inl ⟨by kernel_rfl, ?_⟩) HS ?_
            · intro w5 hw5
              obtain ⟨d0, d1⟩ := hw5
              go_simp
            simp only [Act.put, List.setIfInBounds_toArray, List.set_cons_zero, List.set_cons_succ]
            refine wpAnyH_take (i := 11) (v := .pointer (some ⟨b, o + j * 2 + 1, none⟩)) rfl (by kernel_rfl) (by kernel_rfl) (by kernel_rfl) (fun _ _ _ h => h) (Or.inl ⟨by kernel_rfl, ?_⟩) HS ?_
            · intro w5 hw5
              obtain ⟨d0, d1⟩ := hw5
              go_simp
            simp only [Act.put, List.setIfInBounds_toArray, List.set_cons_zero, List.set_cons_succ]
            refine wpAnyH_take (i := 12) (v := .string ⟨v.toArray⟩) rfl (by kernel_rfl) (by kernel_rfl) (by kernel_rfl) (fun _ _ _ h => h) (Or.inl ⟨by kernel_rfl, ?_⟩) HS ?_
            · intro w5 hw5
              obtain ⟨d0, d1⟩ := hw5
              go_simp
            simp only [Act.put, List.setIfInBounds_toArray, List.set_cons_zero, List.set_cons_succ]
            refine wpAnyH_take (i := 13) (v := .int .i64 (v.length : Int)) rfl (by kernel_rfl) (by kernel_rfl) (by kernel_rfl) (fun _ _ _ h => h) (Or.inl ⟨by kernel_rfl, ?_⟩) HS ?_
            · intro w5 hw5
              obtain ⟨d0, d1⟩ := hw5
              go_simp
            simp only [Act.put, List.setIfInBounds_toArray, List.set_cons_zero, List.set_cons_succ]
            refine wpAnyH_take (i := 14) (v := .bool false) rfl (by kernel_rfl) (by kernel_rfl) (by kernel_rfl) (fun _ _ _ h => h) (Or.inl ⟨by kernel_rfl, ?_⟩) HS ?_
            · intro w5 hw5
              obtain ⟨d0, d1⟩ := hw5
              go_simp
            simp only [Act.put, List.setIfInBounds_toArray, List.set_cons_zero, List.set_cons_succ]
            refine wpAnyH_take (i := 15) (v := .bool false) rfl (by kernel_rfl) (by kernel_rfl) (by kernel_rfl) (fun _ _ _ h => h) (Or.inl ⟨by kernel_rfl, ?_⟩) HS ?_
            · intro w5 hw5
              obtain ⟨d0, d1⟩ := hw5
              go_simp
            simp only [Act.put, List.setIfInBounds_toArray, List.set_cons_zero, List.set_cons_succ]
            refine wpAnyH_take (i := 16) (v := .bool false) rfl (by kernel_rfl) (by kernel_rfl) (by kernel_rfl) (fun _ _ _ h => h) (Or.inl ⟨by kernel_rfl, ?_⟩) HS ?_
            · intro w5 hw5
              obtain ⟨d0, d1⟩ := hw5
              go_simp
            simp only [Act.put, List.setIfInBounds_toArray, List.set_cons_zero, List.set_cons_succ]
            refine wpAnyH_take (i := 17) (v := .slice (some ⟨b, o, none⟩) n c) rfl (by kernel_rfl) (by kernel_rfl) (by kernel_rfl) (fun _ _ _ h => h) (Or.inl ⟨by kernel_rfl, ?_⟩) HS ?_
            · intro w5 hw5
              obtain ⟨d0, d1⟩ := hw5
              go_simp
            simp only [Act.put, List.setIfInBounds_toArray, List.set_cons_zero, List.set_cons_succ]
            refine wpAnyH_take (i := 18) (v := .int .i64 (j : Int)) rfl (by kernel_rfl) (by kernel_rfl) (by kernel_rfl) (fun _ _ _ h => h) (Or.inl ⟨by kernel_rfl, ?_⟩) HS ?_
            · intro w5 hw5
              obtain ⟨d0, d1⟩ := hw5
              go_simp
            simp only [Act.put, List.setIfInBounds_toArray, List.set_cons_zero, List.set_cons_succ]
            refine wpAnyH_take (i := 19) (v := .pointer (some ⟨b, o + j * 2, none⟩)) rfl (by kernel_rfl) (by kernel_rfl) (by kernel_rfl) (fun _ _ _ h => h) (Or.inl ⟨by kernel_rfl, ?_⟩) HS ?_
            · intro w5 hw5
              obtain ⟨d0, d1⟩ := hw5
              go_simp
            simp only [Act.put, List.setIfInBounds_toArray, List.set_cons_zero, List.set_cons_succ]
            refine wpAnyH_take (i := 20) (v := .pointer (some ⟨b, o + j * 2 + 1, none⟩)) rfl (by kernel_rfl) (by kernel_rfl) (by kernel_rfl) (fun _ _ _ h => h) (Or.inl ⟨by kernel_rfl, ?_⟩) HS ?_
            · intro w5 hw5
              obtain ⟨d0, d1⟩ := hw5
              go_simp
            simp only [Act.put, List.setIfInBounds_toArray, List.set_cons_zero, List.set_cons_succ]
            refine wpAnyH_take (i := 21) (v := .string ⟨v.toArray⟩) rfl (by kernel_rfl) (by kernel_rfl) (by kernel_rfl) (fun _ _ _ h => h) (Or.inl ⟨by kernel_rfl, ?_⟩) HS ?_
            · intro w5 hw5
              obtain ⟨d0, d1⟩ := hw5
              go_simp
            simp only [Act.put, List.setIfInBounds_toArray, List.set_cons_zero, List.set_cons_succ]
            refine wpAnyH_take (i := 22) (v := .int .i64 (v.length : Int)) rfl (by kernel_rfl) (by kernel_rfl) (by kernel_rfl) (fun _ _ _ h => h) (Or.inl ⟨by kernel_rfl, ?_⟩) HS ?_
            · intro w5 hw5
              obtain ⟨d0, d1⟩ := hw5
              go_simp
            simp only [Act.put, List.setIfInBounds_toArray, List.set_cons_zero, List.set_cons_succ]
            refine wpAnyH_take (i := 23) (v := .bool false) rfl (by kernel_rfl) (by kernel_rfl) (by kernel_rfl) (fun _ _ _ h => h) (Or.inl ⟨by kernel_rfl, ?_⟩) HS ?_
            · intro w5 hw5
              obtain ⟨d0, d1⟩ := hw5
              go_simp
            simp only [Act.put, List.setIfInBounds_toArray, List.set_cons_zero, List.set_cons_succ]
            refine wpAnyH_take (i := 24) (v := .bool false) rfl (by kernel_rfl) (by kernel_rfl) (by kernel_rfl) (fun _ _ _ h => h) (Or.inl ⟨by kernel_rfl, ?_⟩) HS ?_
            · intro w5 hw5
              obtain ⟨d0, d1⟩ := hw5
              go_simp
            simp only [Act.put, List.setIfInBounds_toArray, List.set_cons_zero, List.set_cons_succ]
            refine wpAnyH_take (i := 25) (v := .bool false) rfl (by kernel_rfl) (by kernel_rfl) (by kernel_rfl) (fun _ _ _ h => h) (Or.inl ⟨by kernel_rfl, ?_⟩) HS ?_
            · intro w5 hw5
              obtain ⟨d0, d1⟩ := hw5
              go_simp
            simp only [Act.put, List.setIfInBounds_toArray, List.set_cons_zero, List.set_cons_succ]
            refine wpAnyH_take (i := 26) (v := .slice (some ⟨b, o, none⟩) n c) rfl (by kernel_rfl) (by kernel_rfl) (by kernel_rfl) (fun _ _ _ h => h) (Or.inl ⟨by kernel_rfl, ?_⟩) HS ?_
            · intro w5 hw5
              obtain ⟨d0, d1⟩ := hw5
              go_simp
            simp only [Act.put, List.setIfInBounds_toArray, List.set_cons_zero, List.set_cons_succ]
            refine wpAnyH_take (i := 27) (v := .int .i64 (j : Int)) rfl (by kernel_rfl) (by kernel_rfl) (by kernel_rfl) (fun _ _ _ h => h) (Or.inl ⟨by kernel_rfl, ?_⟩) HS ?_
            · intro w5 hw5
              obtain ⟨d0, d1⟩ := hw5
              go_simp
            simp only [Act.put, List.setIfInBounds_toArray, List.set_cons_zero, List.set_cons_succ]
            refine wpAnyH_take (i := 28) (v := .pointer (some ⟨b, o + j * 2, none⟩)) rfl (by kernel_rfl) (by kernel_rfl) (by kernel_rfl) (fun _ _ _ h => h) (Or.inl ⟨by kernel_rfl, ?_⟩) HS ?_
            · intro w5 hw5
              obtain ⟨d0, d1⟩ := hw5
              go_simp
            simp only [Act.put, List.setIfInBounds_toArray, List.set_cons_zero, List.set_cons_succ]
            refine wpAnyH_take (i := 29) (v := .pointer (some ⟨b, o + j * 2, none⟩)) rfl (by kernel_rfl) (by kernel_rfl) (by kernel_rfl) (fun _ _ _ h => h) (Or.inl ⟨by kernel_rfl, ?_⟩) HS ?_
            · intro w5 hw5
              obtain ⟨d0, d1⟩ := hw5
              go_simp
            simp only [Act.put, List.setIfInBounds_toArray, List.set_cons_zero, List.set_cons_succ]
            refine wpAnyH_take (i := 30) (v := .string ⟨s.toArray⟩) rfl (by kernel_rfl) (by kernel_rfl) (by kernel_rfl) (fun _ _ _ h => h) (Or.inl ⟨by kernel_rfl, ?_⟩) HS ?_
            · intro w5 hw5
              obtain ⟨d0, d1⟩ := hw5
              go_simp
            simp only [Act.put, List.setIfInBounds_toArray, List.set_cons_zero, List.set_cons_succ]
            refine wpAnyH_take (i := 32) (v := .slice (some ⟨b, o, none⟩) n c) rfl (by kernel_rfl) (by kernel_rfl) (by kernel_rfl) (fun _ _ _ h => h) (Or.inl ⟨by kernel_rfl, ?_⟩) HS ?_
            · intro w5 hw5
              obtain ⟨d0, d1⟩ := hw5
              go_simp
            simp only [Act.put, List.setIfInBounds_toArray, List.set_cons_zero, List.set_cons_succ]
            refine wpAnyH_take (i := 33) (v := .int .i64 (j : Int)) rfl (by kernel_rfl) (by kernel_rfl) (by kernel_rfl) (fun _ _ _ h => h) (Or.inl ⟨by kernel_rfl, ?_⟩) HS ?_
            · intro w5 hw5
              obtain ⟨d0, d1⟩ := hw5
              go_simp
            simp only [Act.put, List.setIfInBounds_toArray, List.set_cons_zero, List.set_cons_succ]
            refine wpAnyH_take (i := 34) (v := .pointer (some ⟨b, o + j * 2, none⟩)) rfl (by kernel_rfl) (by kernel_rfl) (by kernel_rfl) (fun _ _ _ h => h) (Or.inl ⟨by kernel_rfl, ?_⟩) HS ?_
            · intro w5 hw5
              obtain ⟨d0, d1⟩ := hw5
              go_simp
            simp only [Act.put, List.setIfInBounds_toArray, List.set_cons_zero, List.set_cons_succ]
            refine wpAnyH_take (i := 35) (v := .pointer (some ⟨b, o + j * 2, none⟩)) rfl (by kernel_rfl) (by kernel_rfl) (by kernel_rfl) (fun _ _ _ h => h) (Or.inl ⟨by kernel_rfl, ?_⟩) HS ?_
            · intro w5 hw5
              obtain ⟨d0, d1⟩ := hw5
              go_simp
            simp only [Act.put, List.setIfInBounds_toArray, List.set_cons_zero, List.set_cons_succ]
            refine wpAnyH_take (i := 36) (v := .string ⟨s.toArray⟩) rfl (by kernel_rfl) (by kernel_rfl) (by kernel_rfl) (fun _ _ _ h => h) (Or.inl ⟨by kernel_rfl, ?_⟩) HS ?_
            · intro w5 hw5
              obtain ⟨d0, d1⟩ := hw5
              go_simp
            simp only [Act.put, List.setIfInBounds_toArray, List.set_cons_zero, List.set_cons_succ]
            refine wpAnyH_ready (rs := [31]) (by kernel_rfl) (by simp) ?_
            refine AllReadyH.cons rfl (fun K hK => ?_) AllReadyH.nil
            go_simp
            refine (HSM.out _).mono ?_
            rintro e w2 ⟨rfl, hk2⟩
            have K2 : Hid (Keeps [] wr w2) := Keeps.trans' ((Keeps.refl [] wr).drew) hk2
            clear hk2
            refine hK.out _ _ (HF.out _ K2.out) (fun HS => ?_)
            clear hK K
            refine wpAnyH_take (i := 37) (v := .bool (!q)) rfl (by kernel_rfl) (by kernel_rfl) (by kernel_rfl) (fun _ _ _ h => h) (Or.inl ⟨by kernel_rfl, ?_⟩) HS ?_
            · intro w5 hw5
              obtain ⟨d0, d1⟩ := hw5
              go_simp
              first | done | exact hq2
            simp only [Act.put, List.setIfInBounds_toArray, List.set_cons_zero, List.set_cons_succ]
            refine wpAnyH_take (i := 38) (v := .bool (!q)) rfl (by kernel_rfl) (by kernel_rfl) (by kernel_rfl) (fun _ _ _ h => h) (Or.inl ⟨by kernel_rfl, ?_⟩) HS ?_
            · intro w5 hw5
              obtain ⟨d0, d1⟩ := hw5
              go_simp
            simp only [Act.put, List.setIfInBounds_toArray, List.set_cons_zero, List.set_cons_succ]
            refine wpAnyH_done (by kernel_rfl) ?_ _
            cases q
            · go_wp2_with fail
              go_ret
              exact ⟨by rw [← HR.out, HC.out (by first | exact trivial | rfl)]; rfl, HKR.out.trans' K2.out⟩
            · go_wp2_with fail
              go_roundw
              case rel => exact ⟨j + 1, by go_num, by omega, by show _ = _; rw [HT.out, HA.out]; rfl, HKR.out.trans' K2.out⟩
              case measure => simp [intOf]; omega
    · obtain rfl : j = n := by omega
      have h9 := HA.out
      rw [List.take_of_length_le (by have := HD.out.1; omega)] at h9
      have H9 : Hid (true = r) := h9.symm.trans HR.out
      clear h9
      go_wp2_with fail
      go_ret
      exact ⟨by rw [← H9.out]; rfl, HKR.out⟩

end Go.Proofs.YtjnibkgbcgpigaaDoor
