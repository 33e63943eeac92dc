/- Texts of one proof, laid together: X13. -/
import Derived.Test.YtfjlcfbomlfpfaaDoorM90
import Derived.Test.YtfjlcfbomlfpfaaDoorM85
import Derived.Test.YtfjlcfbomlfpfaaDoorM82
import Derived.BigQuiet
/- entry: the law's mods; walked. -/
namespace Go.Proofs.YtfjlcfbomlfpfaaDoor
open Go.RowKit Go.Shelf
set_option linter.unusedVariables false
set_option linter.unusedSimpArgs false
set_option maxRecDepth 100000

/-- What light changes are. -/
def LightM (l : List Mod7) : Prop := l.length ≤ 12 ∧ ∀ m ∈ l, m.a.n ≤ 20 ∧ m.a.name.length ≤ 200 ∧ ∀ s ∈ m.a.vs, s.length ≤ 3000
def LimQ (l : List Mod7) (w : World) (e : Ending) (w' : World) : Prop := ∃ r : Bool, e = .returned (.bool r) ∧ (r = true → LightM l) ∧ Keeps [] w w'
theorem LightM.few {l : List Mod7} (h : LightM l) (m : Nat) (hm : 20 ≤ m) : FewM m l := ⟨by have := h.1; omega, fun a ha => by have := (h.2 a ha).1; omega⟩
set_option maxHeartbeats 8000000 in
theorem mods7_is (A : Option Addr) (n c : Nat) (l : List Mod7) (w : World) (h : ModIn w A n l) :
    Calls Tryd.prog 10 #[.slice A n c] w (LimQ l w) := by
  obtain ⟨iu, hiu, hzu0, hzu1, hzu2⟩ := info_parts attr_info7
  have HV := Lib.hid h
  clear h
  by_cases hnm : n ≤ 12
  · have h1 : ¬ (12 : Int) < (n : Int) := by omega
    go_enter Tryd.func10, Tryd.ntmps10
    go_wp2_with fail
    go_loopw [3, 4] (fun x i wr => ∃ (A' : Option Addr) (k c' : Nat), x = .slice A' k c' ∧ i = .int .i64 (k : Int) ∧ k ≤ n ∧ Hid (SetS w wr A' k c' ((l.take k).map Mod7.a) (ents ((l.take k).map Mod7.a)))) (fun _ i _ => n - (intOf i).toNat)
    case atStart => exact ⟨none, 0, 0, rfl, rfl, Nat.zero_le _, SetS.nil w⟩
    case round =>
    obtain ⟨A', j, c', rfl, rfl, hj, HO⟩ := hrel
    by_cases hlt : j < n
    · obtain ⟨hl, hp, hc9⟩ := HV.out
      obtain ⟨b, o, hA9, hcc⟩ := hc9 (by omega)
      clear hc9
      subst hA9
      obtain ⟨m, hu⟩ : ∃ a, l[j]? = some a := ⟨_, List.getElem?_eq_getElem (by omega)⟩
      obtain ⟨_, c1, c2⟩ := hcc j m hu
      have HFT : Hid (m.a.fits w) := hp m (List.mem_of_getElem? hu)
      have HTK : Hid ((l.take (j + 1)).map Mod7.a = (l.take j).map Mod7.a ++ [m.a]) := by
        show _ = _
        rw [List.take_add_one, hu, List.map_append]
        rfl
      obtain ⟨K, nm, aA, an, ac, avs⟩ := m
      dsimp only at HFT HTK c1 c2
      unfold tv at c1
      have hji : (j : Int) < (n : Int) := by omega
      have hj0 : (0 : Int) ≤ (j : Int) := by omega
      have HF : Hid (∀ X, Keeps [] w X → X.cell? ⟨b, o + j * 3 + 1, none⟩ = some (.string ⟨nm.toArray⟩) ∧ X.cell? ⟨b, o + j * 3 + 2, none⟩ = some (.slice aA an ac)) := fun X hX => ⟨(hX.cell (lt_of_cell c1) (by simp)).trans c1, (hX.cell (lt_of_cell c2) (by simp)).trans c2⟩
      clear hcc hu hp hl c1 c2
      go_wp2_with fail
      refine wp_region_held_drew (S := (fun X => X.cell? ⟨b, o + j * 3 + 1, none⟩ = some (.string ⟨nm.toArray⟩) ∧ X.cell? ⟨b, o + j * 3 + 2, none⟩ = some (.slice aA an ac))) (by kernel_rfl) (HF.out _ (HO.out.keep.trans' ((Keeps.refl [] wr).drew))) ?_
      intro HS
      refine wpAnyH_take (i := 0) (v := .slice A' j c') rfl (by kernel_rfl) (by kernel_rfl) (by kernel_rfl) (fun _ _ _ h => h) (Or.inl ⟨by kernel_rfl, ?_⟩) HS ?_
      · intro w5 hw5
        obtain ⟨d1, d2⟩ := hw5
        go_simp
      simp only [List.getElem_toArray, List.getElem_cons_succ, List.getElem_cons_zero, Act.put, List.setIfInBounds_toArray, List.set_cons_zero, List.set_cons_succ]
      refine wpAnyH_take (i := 1) (v := .slice (some ⟨b, o, none⟩) n c) rfl (by kernel_rfl) (by kernel_rfl) (by kernel_rfl) (fun _ _ _ h => h) (Or.inl ⟨by kernel_rfl, ?_⟩) HS ?_
      · intro w5 hw5
        obtain ⟨d1, d2⟩ := hw5
        go_simp
      simp only [List.getElem_toArray, List.getElem_cons_succ, List.getElem_cons_zero, Act.put, List.setIfInBounds_toArray, List.set_cons_zero, List.set_cons_succ]
      refine wpAnyH_take (i := 2) (v := .int .i64 (j : Int)) rfl (by kernel_rfl) (by kernel_rfl) (by kernel_rfl) (fun _ _ _ h => h) (Or.inl ⟨by kernel_rfl, ?_⟩) HS ?_
      · intro w5 hw5
        obtain ⟨d1, d2⟩ := hw5
        go_simp
      simp only [List.getElem_toArray, List.getElem_cons_succ, List.getElem_cons_zero, Act.put, List.setIfInBounds_toArray, List.set_cons_zero, List.set_cons_succ]
      refine wpAnyH_take (i := 3) (v := .pointer (some ⟨b, o + j * 3, none⟩)) rfl (by kernel_rfl) (by kernel_rfl) (by kernel_rfl) (fun _ _ _ h => h) (Or.inl ⟨by kernel_rfl, ?_⟩) HS ?_
      · intro w5 hw5
        obtain ⟨d1, d2⟩ := hw5
        go_simp
      simp only [List.getElem_toArray, List.getElem_cons_succ, List.getElem_cons_zero, Act.put, List.setIfInBounds_toArray, List.set_cons_zero, List.set_cons_succ]
      refine wpAnyH_take (i := 4) (v := .pointer (some ⟨b, o + j * 3 + 1, none⟩)) rfl (by kernel_rfl) (by kernel_rfl) (by kernel_rfl) (fun _ _ _ h => h) (Or.inl ⟨by kernel_rfl, ?_⟩) HS ?_
      · intro w5 hw5
        obtain ⟨d1, d2⟩ := hw5
        go_simp
      simp only [List.getElem_toArray, List.getElem_cons_succ, List.getElem_cons_zero, Act.put, List.setIfInBounds_toArray, List.set_cons_zero, List.set_cons_succ]
      refine wpAnyH_take (i := 5) (v := .string ⟨nm.toArray⟩) rfl (by kernel_rfl) (by kernel_rfl) (by kernel_rfl) (fun _ _ _ h => h) (Or.inl ⟨by kernel_rfl, ?_⟩) HS ?_
      · intro w5 hw5
        obtain ⟨d1, d2⟩ := hw5
        go_simp
      simp only [List.getElem_toArray, List.getElem_cons_succ, List.getElem_cons_zero, Act.put, List.setIfInBounds_toArray, List.set_cons_zero, List.set_cons_succ]
      refine wpAnyH_take (i := 6) (v := .slice (some ⟨b, o, none⟩) n c) rfl (by kernel_rfl) (by kernel_rfl) (by kernel_rfl) (fun _ _ _ h => h) (Or.inl ⟨by kernel_rfl, ?_⟩) HS ?_
      · intro w5 hw5
        obtain ⟨d1, d2⟩ := hw5
        go_simp
      simp only [List.getElem_toArray, List.getElem_cons_succ, List.getElem_cons_zero, Act.put, List.setIfInBounds_toArray, List.set_cons_zero, List.set_cons_succ]
      refine wpAnyH_take (i := 7) (v := .int .i64 (j : Int)) rfl (by kernel_rfl) (by kernel_rfl) (by kernel_rfl) (fun _ _ _ h => h) (Or.inl ⟨by kernel_rfl, ?_⟩) HS ?_
      · intro w5 hw5
        obtain ⟨d1, d2⟩ := hw5
        go_simp
      simp only [List.getElem_toArray, List.getElem_cons_succ, List.getElem_cons_zero, Act.put, List.setIfInBounds_toArray, List.set_cons_zero, List.set_cons_succ]
      refine wpAnyH_take (i := 8) (v := .pointer (some ⟨b, o + j * 3, none⟩)) rfl (by kernel_rfl) (by kernel_rfl) (by kernel_rfl) (fun _ _ _ h => h) (Or.inl ⟨by kernel_rfl, ?_⟩) HS ?_
      · intro w5 hw5
        obtain ⟨d1, d2⟩ := hw5
        go_simp
      simp only [List.getElem_toArray, List.getElem_cons_succ, List.getElem_cons_zero, Act.put, List.setIfInBounds_toArray, List.set_cons_zero, List.set_cons_succ]
      refine wpAnyH_take (i := 9) (v := .pointer (some ⟨b, o + j * 3 + 2, none⟩)) rfl (by kernel_rfl) (by kernel_rfl) (by kernel_rfl) (fun _ _ _ h => h) (Or.inl ⟨by kernel_rfl, ?_⟩) HS ?_
      · intro w5 hw5
        obtain ⟨d1, d2⟩ := hw5
        go_simp
      simp only [List.getElem_toArray, List.getElem_cons_succ, List.getElem_cons_zero, Act.put, List.setIfInBounds_toArray, List.set_cons_zero, List.set_cons_succ]
      refine wpAnyH_take (i := 10) (v := .slice aA an ac) rfl (by kernel_rfl) (by kernel_rfl) (by kernel_rfl) (fun _ _ _ h => h) (Or.inl ⟨by kernel_rfl, ?_⟩) HS ?_
      · intro w5 hw5
        obtain ⟨d1, d2⟩ := hw5
        go_simp
      simp only [List.getElem_toArray, List.getElem_cons_succ, List.getElem_cons_zero, Act.put, List.setIfInBounds_toArray, List.set_cons_zero, List.set_cons_succ]
      refine wpAnyH_take (i := 11) (v := .agg #[.string ⟨nm.toArray⟩, .slice aA an ac]) rfl (by kernel_rfl) (by kernel_rfl) (by kernel_rfl) (fun _ _ _ h => h) (Or.inl ⟨by kernel_rfl, ?_⟩) HS ?_
      · intro w5 hw5
        obtain ⟨d1, d2⟩ := hw5
        go_simp
      simp only [List.getElem_toArray, List.getElem_cons_succ, List.getElem_cons_zero, Act.put, List.setIfInBounds_toArray, List.set_cons_zero, List.set_cons_succ]
      refine wpAnyH_ready (rs := [12]) (by kernel_rfl) (by simp) ?_
      refine AllReadyH.cons rfl (fun K hK => ?_) AllReadyH.nil
      go_simp
      have HK1 : Hid (Keeps [] wr (wr.drew.alloc (.cells #[tv nm, .slice aA an ac] 27))) := ((Keeps.refl [] wr).drew).alloc _
      refine hK.out _ _ (HF.out _ (HO.out.keep.trans' HK1.out)) (fun HS => ?_)
      clear hK K
      refine wpAnyH_ready (rs := [13]) (by kernel_rfl) (by simp) ?_
      refine AllReadyH.cons rfl (fun K hK => ?_) AllReadyH.nil
      rw [if_pos (by kernel_rfl)]
      refine wp_append_opt (.tmp 14) (.tmp 26) 22 rfl w.heap.size 27 iu _ 2 40 Tryd.underlying22 hiu hzu0 hzu1 hzu2 rfl (by decide) (.slice A' j c') j (atCells ((l.take j).map Mod7.a)) rfl (own_keep HO.out.row HK1.out (by simp)) (some ⟨wr.heap.size, 0, none⟩) 1 1 [tv nm, .slice aA an ac] rfl rfl (src_at7 wr.drew ⟨nm, aA, an, ac, avs⟩ _) (by intro u hu; simp at hu; rcases hu with rfl | rfl <;> rfl) (by unfold maxLen; omega) (by omega) (by have h9 := (HO.out.keep.trans' HK1.out).size; exact h9) ?_
      intro v5 w5 ho5 hg5 hs5
      obtain ⟨A5, c5, hv5⟩ := own_slice ho5
      subst hv5
      have HX5 := Lib.hid (HO.out.snoc ⟨nm, aA, an, ac, avs⟩ HK1.out hg5 ho5 HFT.out)
      refine hK.out _ _ (HF.out _ HX5.out.keep) (fun HS => ?_)
      clear hK K ho5 hg5 hs5
      simp only [List.getElem_toArray, List.getElem_cons_succ, List.getElem_cons_zero, Act.put, List.setIfInBounds_toArray, List.set_cons_zero, List.set_cons_succ]
      refine wpAnyH_take (i := 14) (v := .slice A5 (j + 1) c5) rfl (by kernel_rfl) (by kernel_rfl) (by kernel_rfl) (fun _ _ _ h => h) (Or.inl ⟨by kernel_rfl, ?_⟩) HS ?_
      · intro w5 hw5
        obtain ⟨d1, d2⟩ := hw5
        go_simp
      simp only [List.getElem_toArray, List.getElem_cons_succ, List.getElem_cons_zero, Act.put, List.setIfInBounds_toArray, List.set_cons_zero, List.set_cons_succ]
      refine wpAnyH_done (by kernel_rfl) ?_ _
      go_wp2_with fail
      go_roundw
      case rel => exact ⟨A5, j + 1, c5, rfl, by go_num, by omega, by
        show SetS _ _ _ _ _ _ _
        rw [HTK.out]
        have h9 := HX5.out
        rw [show ents ((l.take j).map Mod7.a ++ [⟨nm, aA, an, ac, avs⟩]) = ents ((l.take j).map Mod7.a) ++ [At7.att ⟨nm, aA, an, ac, avs⟩] from by unfold ents; rw [List.map_append]; rfl]
        exact h9⟩
      case measure => simp [intOf]; omega
    · obtain rfl : j = n := by omega
      have h9 := HO.out
      rw [List.take_of_length_le (by rw [HV.out.1]; exact Nat.le_refl _)] at h9
      have HLI := Lib.hid (light7_is A' j c' (l.map Mod7.a) wr (EntIn.of_own h9.row h9.len (fun a ha => (h9.fits a ha).grow h9.keep)))
      have HK9 := Lib.hid h9.keep
      clear h9
      go_wp2_with fail
      refine HLI.out.mono ?_
      rintro e w5 ⟨r, rfl, hr, rfl⟩
      have HR : Hid (r = true → LightM l) := fun h => by
        obtain ⟨g1, g2⟩ := hr h
        exact ⟨by rw [HV.out.1]; exact hnm, fun m hm => g2 m.a (List.mem_map_of_mem hm)⟩
      clear hr
      go_wp2_with fail
      go_ret
      exact ⟨r, rfl, HR.out, HK9.out⟩
  · have h1 : (12 : Int) < (n : Int) := by omega
    go_enter Tryd.func10, Tryd.ntmps10
    go_wp2_with fail
    go_ret
    exact ⟨false, rfl, by simp, Keeps.refl _ _⟩
end Go.Proofs.YtfjlcfbomlfpfaaDoor
