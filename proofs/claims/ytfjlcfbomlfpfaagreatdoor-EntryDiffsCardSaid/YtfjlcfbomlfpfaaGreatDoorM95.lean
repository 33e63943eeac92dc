/- Texts of one proof, laid together: X12 X13 X14. -/
import Derived.Test.YtfjlcfbomlfpfaaGreatDoorM94
import Derived.Test.YtfjlcfbomlfpfaaGreatDoorM93
import Derived.Test.YtfjlcfbomlfpfaaGreatDoorM90
import Derived.Test.YtfjlcfbomlfpfaaGreatDoorM85
import Derived.Test.YtfjlcfbomlfpfaaGreatDoorM82
import Derived.BigQuiet
/- entry: the document's Do; walked. -/
namespace Go.Proofs.YtfjlcfbomlfpfaaGreatDoor
open Go.RowKit Go.Shelf
set_option linter.unusedVariables false
set_option linter.unusedSimpArgs false
set_option maxRecDepth 100000

theorem preS_sub (n : Txt) (l : List Txt) : ∀ e, ∀ a ∈ (preS e n l).1, a ∈ e ∨ a = (n, l) := by
  refine snoc_ind (by simp [preS]) (fun e x ih y hy => ?_)
  rw [preS_snoc] at hy
  unfold stepS at hy
  dsimp only at hy
  rcases List.mem_append.1 hy with h | h
  · rcases List.mem_append.1 h with h | h
    · rcases ih y h with h | h
      · exact .inl (List.mem_append.2 (.inl h))
      · exact .inr h
    · split at h
      · exact .inr (List.mem_singleton.1 h)
      · cases h
  · split at h
    · cases h
    · exact .inl (List.mem_append.2 (.inr h))
theorem setR_sub (e : List Att) (n : Txt) (l : List Txt) : ∀ a ∈ setR e n l, a ∈ e ∨ a = (n, l) := by
  intro a ha
  unfold setR at ha
  rcases List.mem_append.1 ha with h | h
  · exact preS_sub n l e a h
  · split at h
    · cases h
    · exact .inr (List.mem_singleton.1 h)
theorem one_few {E : List Att} {k : Nat} {z : Txt} {told : List Txt} (h : (oneR E k z told).2 = 0) (hE : ∀ a ∈ E, a.2.length ≤ 16) : (oneR E k z told).1.length ≤ 24 ∧ ∀ a ∈ (oneR E k z told).1, a.2.length ≤ 16 := by
  unfold oneR at h ⊢
  split at h
  · rename_i h1; exact absurd h h1
  · rename_i h1
    rw [if_neg h1]
    split at h
    · cases h
    · rename_i h2
      rw [if_neg h2]
      simp only [Bool.or_eq_true, decide_eq_true_eq, not_or] at h2
      refine ⟨by show (setR _ _ _).length ≤ 24; omega, fun a ha => ?_⟩
      rcases setR_sub _ _ _ a ha with h3 | h3
      · exact hE a h3
      · rw [h3]; show (nowR _ _ _).1.length ≤ 16; omega
theorem rdoGo_next {E : List Att} {l : List Chg7} {j : Nat} {m : Chg7} (h : l[j]? = some m) : rdoGo E (l.drop j) = if (oneR E m.1.toNat (smallL m.2.1) m.2.2).2 ≠ 0 then ([], (oneR E m.1.toNat (smallL m.2.1) m.2.2).2) else rdoGo (oneR E m.1.toNat (smallL m.2.1) m.2.2).1 (l.drop (j + 1)) := by
  obtain ⟨hlt, rfl⟩ := List.getElem?_eq_some_iff.1 h
  rw [List.drop_eq_getElem_cons hlt]
  rfl
set_option maxHeartbeats 8000000 in
theorem rdo7_is (A : Option Addr) (n c : Nat) (l : List At7) (MA : Option Addr) (mn mc : Nat) (ms : List Mod7) (w : World) (h : EntIn w A n l) (hf : Few7 1000 l) (hnc : n ≤ c) (hc : c ≤ 9223372036854775807) (h2 : ModIn w MA mn ms) (hf2 : FewM 1000 ms) :
    Calls Tryz.prog 13 #[.slice A n c, .slice MA mn mc] w (EnrQ (doP (ents l) (modsOf ms)) w) := by
  rw [← rdo_eq]
  have HM := Lib.hid h2
  have HMF := Lib.hid hf2
  have hmn : mn ≤ 1000 := by rw [← h2.1]; exact hf2.1
  have HML : Hid ((modsOf ms).length = mn) := by show _ = _; unfold modsOf; rw [List.length_map, h2.1]
  have HRT := Lib.hid (rright7_is A n c l w h ⟨by have := hf.1; omega, fun a ha => by have := hf.2 a ha; omega⟩)
  have HQ0 : Hid (EntQ (ents l) w A n c w) := ⟨l, rfl, h, hnc, hc, fun a ha => (h.2.1 a ha).2.2.2.1⟩
  obtain ⟨P, hP⟩ : ∃ P, rdoP (ents l) (modsOf ms) = P := ⟨_, rfl⟩
  rw [hP]
  have HP := Lib.hid hP
  have HEO := Lib.hid (entOk_parts (e := ents l))
  obtain ⟨E0, hE0⟩ : ∃ E, ents l = E := ⟨_, rfl⟩
  rw [hE0] at HRT HQ0 HP HEO
  obtain ⟨q, hq⟩ : ∃ q, entOk E0 = q := ⟨_, rfl⟩
  rw [hq] at HRT HEO
  have HQQ := Lib.hid hq
  clear h hf h2 hf2 hP hq hE0 hnc hc
  go_enter Tryz.func13, Tryz.ntmps13
  go_wp2_with fail
  refine HRT.out.mono ?_
  rintro e w1 ⟨rfl, hk1⟩
  have HK1 := Lib.hid hk1
  clear hk1
  cases q
  · have HPE : Hid (P = ([], 2)) := by show _ = _; rw [← HP.out]; unfold rdoP; rw [if_pos HQQ.out]
    go_wp2_with fail
    refine bodyPost_ret (results_tmp2 rfl _ _ _) rfl ?_
    rw [HPE.out]
    exact EnrQ.no HK1.out
  · have HFE : Hid (E0.length ≤ 24 ∧ ∀ a ∈ E0, a.2.length ≤ 16) := by
      obtain ⟨_, g2, g3⟩ := HEO.out rfl
      exact ⟨g2, fun a ha => (g3 a ha).2.1⟩
    clear HEO
    go_wp2_with fail
    go_loopw [6] (fun i wr => ∃ j : Nat, i = .int .i64 (j : Int) ∧ j ≤ mn ∧ Hid (((modsOf ms).take j).all (fun m => modOk m.1 m.2.1 m.2.2) = true) ∧ Hid (Keeps [] w wr)) (fun i _ => mn - (intOf i).toNat)
    case atStart => exact ⟨0, rfl, Nat.zero_le _, rfl, HK1.out⟩
    case round =>
      obtain ⟨j, rfl, hj, HA, HKR⟩ := hrel
      by_cases hlt : j < mn
      · obtain ⟨hl, hp, hc9⟩ := ModIn.grow HKR.out HM.out
        obtain ⟨b, o, hA9, hcc⟩ := hc9 (by omega)
        clear hc9
        subst hA9
        obtain ⟨m, hu⟩ : ∃ a, ms[j]? = some a := ⟨_, List.getElem?_eq_getElem (by omega)⟩
        obtain ⟨c0, c1, c2⟩ := hcc j m hu
        have hfit := hp m (List.mem_of_getElem? hu)
        have hmf := HMF.out.2 m (List.mem_of_getElem? hu)
        have hue := mods_at hu
        have HT := Lib.hid (all_take7 (p := fun m : Chg7 => modOk m.1 m.2.1 m.2.2) hue)
        have HC := Lib.hid (fun h => all_cut7 (p := fun m : Chg7 => modOk m.1 m.2.1 m.2.2) hue h)
        obtain ⟨K, nm, aA, an, ac, avs⟩ := m
        obtain ⟨hnm, hnc, hac, hV⟩ := hfit
        dsimp only at c0 c1 c2 hnm hV hmf
        unfold Mod7.mod At7.att at HT HC
        dsimp only at HT HC
        have HMY := Lib.hid (fun X (hX : Keeps [] wr X) => rmay_is K nm aA an ac avs X hnm (StrsIn.grow hX hV) (by omega))
        obtain ⟨q5, hq5⟩ : ∃ q, modOk K nm avs = q := ⟨_, rfl⟩
        rw [hq5] at HT HC HMY
        unfold tv at c1 HMY
        have hji : (j : Int) < (mn : Int) := by omega
        have hj0 : (0 : Int) ≤ (j : Int) := by omega
        clear hcc hu hue hp hl hq5 hV hnm hnc hac
        go_wp2_with fail
        refine (HMY.out _ (Keeps.refl _ _)).mono ?_
        rintro e w5 ⟨rfl, hk5⟩
        have HK5 := Lib.hid (HKR.out.trans' hk5)
        clear hk5
        cases q5
        · have HPE : Hid (P = ([], 2)) := by
            show _ = _
            rw [← HP.out]
            unfold rdoP
            rw [if_neg (by rw [HQQ.out]; decide), if_pos (HC.out (by first | exact trivial | rfl))]
          go_wp2_with fail
          refine bodyPost_ret (results_tmp2 rfl _ _ _) rfl ?_
          rw [HPE.out]
          exact EnrQ.no HK5.out
        · go_wp2_with fail
          go_roundw
          case rel => exact ⟨j + 1, by go_num, by omega, by show _ = _; rw [HT.out, HA.out]; rfl, HK5.out⟩
          case measure => simp [intOf]; omega
      · obtain rfl : j = mn := by omega
        have h9 := HA.out
        rw [List.take_of_length_le (by rw [HML.out]; exact Nat.le_refl _)] at h9
        have HPY : Hid (rdoGo E0 ((modsOf ms).drop 0) = P) := by
          show _ = _
          rw [← HP.out, List.drop_zero]
          unfold rdoP
          rw [if_neg (by rw [HQQ.out]; decide), if_neg (by rw [h9]; decide)]
        have HAL := Lib.hid h9
        clear h9 HA hlt hj
        obtain ⟨V, hV⟩ : ∃ V : World, V = wr := ⟨_, rfl⟩
        subst hV
        go_wp2_with fail
        go_loopw [0, 7] (fun x i wr => ∃ (A' : Option Addr) (k c' i7 : Nat) (E : List Att), x = .slice A' k c' ∧ i = .int .i64 (i7 : Int) ∧ i7 ≤ j ∧ Hid (EntQ E w A' k c' wr ∧ (E.length ≤ 24 ∧ ∀ a ∈ E, a.2.length ≤ 16) ∧ rdoGo E ((modsOf ms).drop i7) = P) ∧ Hid (Keeps [] w wr)) (fun _ i _ => j - (intOf i).toNat)
        case atStart => exact ⟨A, n, c, 0, E0, rfl, rfl, Nat.zero_le _, ⟨(by
          obtain ⟨L, e1, e2, e3, e4, e5⟩ := HQ0.out
          exact ⟨L, e1, EntIn.grow HKR.out e2, e3, e4, e5⟩), HFE.out, HPY.out⟩, HKR.out⟩
        case round =>
          obtain ⟨A', k, c', i, E, rfl, rfl, hi, HQ, HKS⟩ := hrel
          by_cases hlt : i < j
          · obtain ⟨hl, hp, hc9⟩ := ModIn.grow HKS.out HM.out
            obtain ⟨b, o, hA9, hcc⟩ := hc9 (by omega)
            clear hc9
            subst hA9
            obtain ⟨m, hu⟩ : ∃ a, ms[i]? = some a := ⟨_, List.getElem?_eq_getElem (by omega)⟩
            obtain ⟨c0, c1, c2⟩ := hcc i m hu
            have hfit := hp m (List.mem_of_getElem? hu)
            have hue := mods_at hu
            have hok : modOk m.k m.a.name m.a.vs = true := List.all_eq_true.1 HAL.out m.mod (List.mem_of_getElem? hue)
            have HNX := Lib.hid (rdoGo_next (E := E) hue)
            obtain ⟨⟨L, e1, e2, e3, e4, e5⟩, ⟨f1, f2⟩, hgo⟩ := HQ.out
            obtain ⟨K, nm, aA, an, ac, avs⟩ := m
            dsimp only at c0 c1 c2 hfit hok
            unfold Mod7.mod At7.att at HNX
            dsimp only at HNX
            rw [hgo] at HNX
            have HON := Lib.hid (rone7_is A' k c' L K nm aA an ac avs wr e2 ⟨by rw [← ents_len, e1]; omega, fun a ha => by
              rw [← e5 a ha]
              have := f2 a.att (by rw [← e1]; unfold ents; exact List.mem_map_of_mem ha)
              show a.vs.length ≤ 1000
              have h8 : a.att.2.length = a.vs.length := rfl
              omega⟩ hfit hok)
            rw [e1] at HON
            have HFW := Lib.hid (one_few (E := E) (k := K.toNat) (z := smallL nm) (told := avs) · f2)
            obtain ⟨P1, hP1⟩ : ∃ P1, oneR E K.toNat (smallL nm) avs = P1 := ⟨_, rfl⟩
            rw [hP1] at HON HNX HFW
            obtain ⟨E1, no⟩ := P1
            dsimp only at HNX HFW
            unfold tv at c1 HON
            have hji : (i : Int) < (j : Int) := by omega
            have hj0 : (0 : Int) ≤ (i : Int) := by omega
            clear hcc hu hue hp hl hfit hok e1 e2 e3 e4 e5 f1 f2 hgo hP1
            go_wp2_with fail
            refine HON.out.mono ?_
            rintro e w5 ⟨A5, n5, c5, rfl, hQ5, hk5⟩
            have HQ5 : Hid (EntQ E1 w A5 n5 c5 w5) := hQ5
            have HK5 := Lib.hid (HKS.out.trans' hk5)
            clear hQ5 hk5
            by_cases h0 : no = 0
            · subst h0
              rw [if_neg (by simp)] at HNX
              go_wp2_with fail
              go_roundw
              case rel => exact ⟨A5, n5, c5, i + 1, E1, rfl, by go_num, by omega, ⟨HQ5.out, HFW.out (by first | exact trivial | rfl), HNX.out.symm⟩, HK5.out⟩
              case measure => simp [intOf]; omega
            · have h0i : ¬ (no : Int) = 0 := by omega
              have h0b : ((no : Int) != 0) = true := by simpa using h0
              rw [if_pos h0] at HNX
              go_wp2_with fail
              refine bodyPost_ret (results_tmp2 rfl _ _ _) rfl ?_
              rw [HNX.out]
              exact EnrQ.no HK5.out
          · obtain rfl : i = j := by omega
            have HPE : Hid (P = (E, 0)) := by
              show _ = _
              rw [← HQ.out.2.2, List.drop_of_length_le (by rw [HML.out]; exact Nat.le_refl _)]
              rfl
            go_wp2_with fail
            refine bodyPost_ret (results_tmp2 rfl _ _ _) rfl ?_
            rw [HPE.out]
            exact ⟨A', k, c', rfl, HQ.out.1, HKS.out⟩
end Go.Proofs.YtfjlcfbomlfpfaaGreatDoor
/- entry: the law's mods; walked. -/
namespace Go.Proofs.YtfjlcfbomlfpfaaGreatDoor
open Go.RowKit Go.Shelf
set_option linter.unusedVariables false
set_option linter.unusedSimpArgs false
set_option maxRecDepth 100000

/-- What light changes are. -/
def LightM (l : List Mod7) : Prop := l.length ≤ 12 ∧ ∀ m ∈ l, m.a.n ≤ 20 ∧ m.a.name.length ≤ 200 ∧ ∀ s ∈ m.a.vs, s.length ≤ 3000
def LimQ (l : List Mod7) (w : World) (e : Ending) (w' : World) : Prop := ∃ r : Bool, e = .returned (.bool r) ∧ (r = true → LightM l) ∧ Keeps [] w w'
theorem LightM.few {l : List Mod7} (h : LightM l) (m : Nat) (hm : 20 ≤ m) : FewM m l := ⟨by have := h.1; omega, fun a ha => by have := (h.2 a ha).1; omega⟩
set_option maxHeartbeats 8000000 in
theorem mods7_is (A : Option Addr) (n c : Nat) (l : List Mod7) (w : World) (h : ModIn w A n l) :
    Calls Tryz.prog 10 #[.slice A n c] w (LimQ l w) := by
  obtain ⟨iu, hiu, hzu0, hzu1, hzu2⟩ := info_parts attr_info7
  have HV := Lib.hid h
  clear h
  by_cases hnm : n ≤ 12
  · have h1 : ¬ (12 : Int) < (n : Int) := by omega
    go_enter Tryz.func10, Tryz.ntmps10
    go_wp2_with fail
    go_loopw [3, 4] (fun x i wr => ∃ (A' : Option Addr) (k c' : Nat), x = .slice A' k c' ∧ i = .int .i64 (k : Int) ∧ k ≤ n ∧ Hid (SetS w wr A' k c' ((l.take k).map Mod7.a) (ents ((l.take k).map Mod7.a)))) (fun _ i _ => n - (intOf i).toNat)
    case atStart => exact ⟨none, 0, 0, rfl, rfl, Nat.zero_le _, SetS.nil w⟩
    case round =>
    obtain ⟨A', j, c', rfl, rfl, hj, HO⟩ := hrel
    by_cases hlt : j < n
    · obtain ⟨hl, hp, hc9⟩ := HV.out
      obtain ⟨b, o, hA9, hcc⟩ := hc9 (by omega)
      clear hc9
      subst hA9
      obtain ⟨m, hu⟩ : ∃ a, l[j]? = some a := ⟨_, List.getElem?_eq_getElem (by omega)⟩
      obtain ⟨_, c1, c2⟩ := hcc j m hu
      have HFT : Hid (m.a.fits w) := hp m (List.mem_of_getElem? hu)
      have HTK : Hid ((l.take (j + 1)).map Mod7.a = (l.take j).map Mod7.a ++ [m.a]) := by
        show _ = _
        rw [List.take_add_one, hu, List.map_append]
        rfl
      obtain ⟨K, nm, aA, an, ac, avs⟩ := m
      dsimp only at HFT HTK c1 c2
      unfold tv at c1
      have hji : (j : Int) < (n : Int) := by omega
      have hj0 : (0 : Int) ≤ (j : Int) := by omega
      have HF : Hid (∀ X, Keeps [] w X → X.cell? ⟨b, o + j * 3 + 1, none⟩ = some (.string ⟨nm.toArray⟩) ∧ X.cell? ⟨b, o + j * 3 + 2, none⟩ = some (.slice aA an ac)) := fun X hX => ⟨(hX.cell (lt_of_cell c1) (by simp)).trans c1, (hX.cell (lt_of_cell c2) (by simp)).trans c2⟩
      clear hcc hu hp hl c1 c2
      go_wp2_with fail
      refine wp_region_held_drew (S := (fun X => X.cell? ⟨b, o + j * 3 + 1, none⟩ = some (.string ⟨nm.toArray⟩) ∧ X.cell? ⟨b, o + j * 3 + 2, none⟩ = some (.slice aA an ac))) (by kernel_rfl) (HF.out _ (HO.out.keep.trans' ((Keeps.refl [] wr).drew))) ?_
      intro HS
      refine wpAnyH_take (i := 0) (v := .slice A' j c') rfl (by kernel_rfl) (by kernel_rfl) (by kernel_rfl) (fun _ _ _ h => h) (Or.inl ⟨by kernel_rfl, ?_⟩) HS ?_
      · intro w5 hw5
        obtain ⟨d1, d2⟩ := hw5
        go_simp
      simp only [List.getElem_toArray, List.getElem_cons_succ, List.getElem_cons_zero, Act.put, List.setIfInBounds_toArray, List.set_cons_zero, List.set_cons_succ]
      refine wpAnyH_take (i := 1) (v := .slice (some ⟨b, o, none⟩) n c) rfl (by kernel_rfl) (by kernel_rfl) (by kernel_rfl) (fun _ _ _ h => h) (Or.inl ⟨by kernel_rfl, ?_⟩) HS ?_
      · intro w5 hw5
        obtain ⟨d1, d2⟩ := hw5
        go_simp
      simp only [List.getElem_toArray, List.getElem_cons_succ, List.getElem_cons_zero, Act.put, List.setIfInBounds_toArray, List.set_cons_zero, List.set_cons_succ]
      refine wpAnyH_take (i := 2) (v := .int .i64 (j : Int)) rfl (by kernel_rfl) (by kernel_rfl) (by kernel_rfl) (fun _ _ _ h => h) (Or.inl ⟨by kernel_rfl, ?_⟩) HS ?_
      · intro w5 hw5
        obtain ⟨d1, d2⟩ := hw5
        go_simp
      simp only [List.getElem_toArray, List.getElem_cons_succ, List.getElem_cons_zero, Act.put, List.setIfInBounds_toArray, List.set_cons_zero, List.set_cons_succ]
      refine wpAnyH_take (i := 3) (v := .pointer (some ⟨b, o + j * 3, none⟩)) rfl (by kernel_rfl) (by kernel_rfl) (by kernel_rfl) (fun _ _ _ h => h) (Or.inl ⟨by kernel_rfl, ?_⟩) HS ?_
      · intro w5 hw5
        obtain ⟨d1, d2⟩ := hw5
        go_simp
      simp only [List.getElem_toArray, List.getElem_cons_succ, List.getElem_cons_zero, Act.put, List.setIfInBounds_toArray, List.set_cons_zero, List.set_cons_succ]
      refine wpAnyH_take (i := 4) (v := .pointer (some ⟨b, o + j * 3 + 1, none⟩)) rfl (by kernel_rfl) (by kernel_rfl) (by kernel_rfl) (fun _ _ _ h => h) (Or.inl ⟨by kernel_rfl, ?_⟩) HS ?_
      · intro w5 hw5
        obtain ⟨d1, d2⟩ := hw5
        go_simp
      simp only [List.getElem_toArray, List.getElem_cons_succ, List.getElem_cons_zero, Act.put, List.setIfInBounds_toArray, List.set_cons_zero, List.set_cons_succ]
      refine wpAnyH_take (i := 5) (v := .string ⟨nm.toArray⟩) rfl (by kernel_rfl) (by kernel_rfl) (by kernel_rfl) (fun _ _ _ h => h) (Or.inl ⟨by kernel_rfl, ?_⟩) HS ?_
      · intro w5 hw5
        obtain ⟨d1, d2⟩ := hw5
        go_simp
      simp only [List.getElem_toArray, List.getElem_cons_succ, List.getElem_cons_zero, Act.put, List.setIfInBounds_toArray, List.set_cons_zero, List.set_cons_succ]
      refine wpAnyH_take (i := 6) (v := .slice (some ⟨b, o, none⟩) n c) rfl (by kernel_rfl) (by kernel_rfl) (by kernel_rfl) (fun _ _ _ h => h) (Or.inl ⟨by kernel_rfl, ?_⟩) HS ?_
      · intro w5 hw5
        obtain ⟨d1, d2⟩ := hw5
        go_simp
      simp only [List.getElem_toArray, List.getElem_cons_succ, List.getElem_cons_zero, Act.put, List.setIfInBounds_toArray, List.set_cons_zero, List.set_cons_succ]
      refine wpAnyH_take (i := 7) (v := .int .i64 (j : Int)) rfl (by kernel_rfl) (by kernel_rfl) (by kernel_rfl) (fun _ _ _ h => h) (Or.inl ⟨by kernel_rfl, ?_⟩) HS ?_
      · intro w5 hw5
        obtain ⟨d1, d2⟩ := hw5
        go_simp
      simp only [List.getElem_toArray, List.getElem_cons_succ, List.getElem_cons_zero, Act.put, List.setIfInBounds_toArray, List.set_cons_zero, List.set_cons_succ]
      refine wpAnyH_take (i := 8) (v := .pointer (some ⟨b, o + j * 3, none⟩)) rfl (by kernel_rfl) (by kernel_rfl) (by kernel_rfl) (fun _ _ _ h => h) (Or.inl ⟨by kernel_rfl, ?_⟩) HS ?_
      · intro w5 hw5
        obtain ⟨d1, d2⟩ := hw5
        go_simp
      simp only [List.getElem_toArray, List.getElem_cons_succ, List.getElem_cons_zero, Act.put, List.setIfInBounds_toArray, List.set_cons_zero, List.set_cons_succ]
      refine wpAnyH_take (i := 9) (v := .pointer (some ⟨b, o + j * 3 + 2, none⟩)) rfl (by kernel_rfl) (by kernel_rfl) (by kernel_rfl) (fun _ _ _ h => h) (Or.inl ⟨by kernel_rfl, ?_⟩) HS ?_
      · intro w5 hw5
        obtain ⟨d1, d2⟩ := hw5
        go_simp
      simp only [List.getElem_toArray, List.getElem_cons_succ, List.getElem_cons_zero, Act.put, List.setIfInBounds_toArray, List.set_cons_zero, List.set_cons_succ]
      refine wpAnyH_take (i := 10) (v := .slice aA an ac) rfl (by kernel_rfl) (by kernel_rfl) (by kernel_rfl) (fun _ _ _ h => h) (Or.inl ⟨by kernel_rfl, ?_⟩) HS ?_
      · intro w5 hw5
        obtain ⟨d1, d2⟩ := hw5
        go_simp
      simp only [List.getElem_toArray, List.getElem_cons_succ, List.getElem_cons_zero, Act.put, List.setIfInBounds_toArray, List.set_cons_zero, List.set_cons_succ]
      refine wpAnyH_take (i := 11) (v := .agg #[.string ⟨nm.toArray⟩, .slice aA an ac]) rfl (by kernel_rfl) (by kernel_rfl) (by kernel_rfl) (fun _ _ _ h => h) (Or.inl ⟨by kernel_rfl, ?_⟩) HS ?_
      · intro w5 hw5
        obtain ⟨d1, d2⟩ := hw5
        go_simp
      simp only [List.getElem_toArray, List.getElem_cons_succ, List.getElem_cons_zero, Act.put, List.setIfInBounds_toArray, List.set_cons_zero, List.set_cons_succ]
      refine wpAnyH_ready (rs := [12]) (by kernel_rfl) (by simp) ?_
      refine AllReadyH.cons rfl (fun K hK => ?_) AllReadyH.nil
      go_simp
      have HK1 : Hid (Keeps [] wr (wr.drew.alloc (.cells #[tv nm, .slice aA an ac] 59))) := ((Keeps.refl [] wr).drew).alloc _
      refine hK.out _ _ (HF.out _ (HO.out.keep.trans' HK1.out)) (fun HS => ?_)
      clear hK K
      refine wpAnyH_ready (rs := [13]) (by kernel_rfl) (by simp) ?_
      refine AllReadyH.cons rfl (fun K hK => ?_) AllReadyH.nil
      rw [if_pos (by kernel_rfl)]
      refine wp_append_opt (.tmp 14) (.tmp 26) 22 rfl w.heap.size 59 iu _ 2 40 Tryz.underlying22 hiu hzu0 hzu1 hzu2 rfl (by decide) (.slice A' j c') j (atCells ((l.take j).map Mod7.a)) rfl (own_keep HO.out.row HK1.out (by simp)) (some ⟨wr.heap.size, 0, none⟩) 1 1 [tv nm, .slice aA an ac] rfl rfl (src_at7 wr.drew ⟨nm, aA, an, ac, avs⟩ _) (by intro u hu; simp at hu; rcases hu with rfl | rfl <;> rfl) (by unfold maxLen; omega) (by omega) (by have h9 := (HO.out.keep.trans' HK1.out).size; exact h9) ?_
      intro v5 w5 ho5 hg5 hs5
      obtain ⟨A5, c5, hv5⟩ := own_slice ho5
      subst hv5
      have HX5 := Lib.hid (HO.out.snoc ⟨nm, aA, an, ac, avs⟩ HK1.out hg5 ho5 HFT.out)
      refine hK.out _ _ (HF.out _ HX5.out.keep) (fun HS => ?_)
      clear hK K ho5 hg5 hs5
      simp only [List.getElem_toArray, List.getElem_cons_succ, List.getElem_cons_zero, Act.put, List.setIfInBounds_toArray, List.set_cons_zero, List.set_cons_succ]
      refine wpAnyH_take (i := 14) (v := .slice A5 (j + 1) c5) rfl (by kernel_rfl) (by kernel_rfl) (by kernel_rfl) (fun _ _ _ h => h) (Or.inl ⟨by kernel_rfl, ?_⟩) HS ?_
      · intro w5 hw5
        obtain ⟨d1, d2⟩ := hw5
        go_simp
      simp only [List.getElem_toArray, List.getElem_cons_succ, List.getElem_cons_zero, Act.put, List.setIfInBounds_toArray, List.set_cons_zero, List.set_cons_succ]
      refine wpAnyH_done (by kernel_rfl) ?_ _
      go_wp2_with fail
      go_roundw
      case rel => exact ⟨A5, j + 1, c5, rfl, by go_num, by omega, by
        show SetS _ _ _ _ _ _ _
        rw [HTK.out]
        have h9 := HX5.out
        rw [show ents ((l.take j).map Mod7.a ++ [⟨nm, aA, an, ac, avs⟩]) = ents ((l.take j).map Mod7.a) ++ [At7.att ⟨nm, aA, an, ac, avs⟩] from by unfold ents; rw [List.map_append]; rfl]
        exact h9⟩
      case measure => simp [intOf]; omega
    · obtain rfl : j = n := by omega
      have h9 := HO.out
      rw [List.take_of_length_le (by rw [HV.out.1]; exact Nat.le_refl _)] at h9
      have HLI := Lib.hid (light7_is A' j c' (l.map Mod7.a) wr (EntIn.of_own h9.row h9.len (fun a ha => (h9.fits a ha).grow h9.keep)))
      have HK9 := Lib.hid h9.keep
      clear h9
      go_wp2_with fail
      refine HLI.out.mono ?_
      rintro e w5 ⟨r, rfl, hr, rfl⟩
      have HR : Hid (r = true → LightM l) := fun h => by
        obtain ⟨g1, g2⟩ := hr h
        exact ⟨by rw [HV.out.1]; exact hnm, fun m hm => g2 m.a (List.mem_map_of_mem hm)⟩
      clear hr
      go_wp2_with fail
      go_ret
      exact ⟨r, rfl, HR.out, HK9.out⟩
  · have h1 : (12 : Int) < (n : Int) := by omega
    go_enter Tryz.func10, Tryz.ntmps10
    go_wp2_with fail
    go_ret
    exact ⟨false, rfl, by simp, Keeps.refl _ _⟩
end Go.Proofs.YtfjlcfbomlfpfaaGreatDoor
/- entry: EntryDoes; walked. -/
namespace Go.Proofs.YtfjlcfbomlfpfaaGreatDoor
open Go.RowKit Go.Shelf
set_option linter.unusedVariables false
set_option linter.unusedSimpArgs false
set_option maxRecDepth 100000

theorem go_few : ∀ (l : List Chg7) {E : List Att}, E.length ≤ 24 → (∀ a ∈ E, a.2.length ≤ 16) → (rdoGo E l).1.length ≤ 24 ∧ ∀ a ∈ (rdoGo E l).1, a.2.length ≤ 16
  | [], E, h1, h2 => ⟨h1, h2⟩
  | m :: r, E, h1, h2 => by
    unfold rdoGo
    split
    · simp
    · rename_i h3
      obtain ⟨h4, h5⟩ := one_few (Decidable.not_not.1 h3) h2
      exact go_few r h4 h5
theorem do_few (e : List Att) (l : List Chg7) : (doP e l).1.length ≤ 24 ∧ ∀ a ∈ (doP e l).1, a.2.length ≤ 16 := by
  rw [← rdo_eq]
  unfold rdoP
  split
  · simp
  · rename_i h
    split
    · simp
    · have h1 : entOk e = true := by simpa using h
      obtain ⟨_, h2, h3⟩ := entOk_parts h1
      exact go_few l h2 (fun a ha => (h3 a ha).2.1)
set_option maxHeartbeats 8000000 in
theorem entrydoes_any (A : Option Addr) (n c : Nat) (l : List At7) (MA : Option Addr) (mn mc : Nat) (ms : List Mod7) (w : World) (h : EntIn w A n l) (hnc : n ≤ c) (hc : c ≤ 9223372036854775807) (h2 : ModIn w MA mn ms) (hp : PowAt w) :
    Calls Tryz.prog 3 #[.slice A n c, .slice MA mn mc] w fun e w' => e = .returned (.bool true) ∧ Keeps [] w w' := by
  have HE1 := Lib.hid h
  have HM1 := Lib.hid h2
  have HCC : Hid (n ≤ c ∧ c ≤ 9223372036854775807) := ⟨hnc, hc⟩
  have HLI := Lib.hid (light7_is A n c l w h)
  have HMI := Lib.hid (mods7_is MA mn mc ms w h2)
  have HKN := Lib.hid (fun X (hX : Keeps [] w X) => known7_is X (hp.keep hX))
  clear h hp h2 hnc hc
  go_enter Tryz.func3, Tryz.ntmps3
  go_wp2_with fail
  refine HLI.out.mono ?_
  rintro e w1 ⟨r1, rfl, hr1, rfl⟩
  have HR1 := Lib.hid hr1
  clear hr1
  cases r1
  · go_wp2_with fail
    refine (HKN.out _ (Keeps.refl _ _)).mono ?_
    rintro e w2 ⟨rfl, hk2⟩
    have HK2 := Lib.hid hk2
    clear hk2
    go_wp2_with fail
    go_ret
    exact ⟨rfl, HK2.out⟩
  · go_wp2_with fail
    refine HMI.out.mono ?_
    rintro e w1 ⟨r2, rfl, hr2, hk1⟩
    have HR2 := Lib.hid hr2
    have HK1 := Lib.hid hk1
    clear hr2 hk1
    cases r2
    · go_wp2_with fail
      refine (HKN.out _ HK1.out).mono ?_
      rintro e w2 ⟨rfl, hk2⟩
      have HK2 := Lib.hid (HK1.out.trans' hk2)
      clear hk2
      go_wp2_with fail
      go_ret
      exact ⟨rfl, HK2.out⟩
    · have hl1 : LightE l := HR1.out (by first | exact trivial | rfl)
      have hl2 : LightM ms := HR2.out (by first | exact trivial | rfl)
      have HDO := Lib.hid (do_is A n c l MA mn mc ms w1 (EntIn.grow HK1.out HE1.out) (hl1.few 1000 (by omega)) (ModIn.grow HK1.out HM1.out) (hl2.few 1000 (by omega)))
      have HRD := Lib.hid (fun X (hX : Keeps [] w X) => rdo7_is A n c l MA mn mc ms X (EntIn.grow hX HE1.out) (hl1.few 1000 (by omega)) HCC.out.1 HCC.out.2 (ModIn.grow hX HM1.out) (hl2.few 1000 (by omega)))
      have HCK := Lib.hid (fun X (hX : Keeps [] w X) => check7_is A n c l X (EntIn.grow hX HE1.out) (hl1.few 100000 (by omega)))
      have HRR := Lib.hid (fun X (hX : Keeps [] w X) => rright7_is A n c l X (EntIn.grow hX HE1.out) (hl1.few 100000 (by omega)))
      obtain ⟨hf1, hf2⟩ := do_few (ents l) (modsOf ms)
      obtain ⟨P, hP⟩ : ∃ P, doP (ents l) (modsOf ms) = P := ⟨_, rfl⟩
      rw [hP] at HDO HRD hf1 hf2
      obtain ⟨E, no⟩ := P
      dsimp only at hf1 hf2
      have HFW : Hid (E.length ≤ 24 ∧ ∀ a ∈ E, a.2.length ≤ 16) := ⟨hf1, hf2⟩
      obtain ⟨q, hq⟩ : ∃ q, entOk (ents l) = q := ⟨_, rfl⟩
      rw [hq] at HCK HRR
      clear hl1 hl2 hP hf1 hf2 hq HLI HMI
      go_wp2_with fail
      refine HDO.out.mono ?_
      rintro e w3 ⟨A3, n3, c3, rfl, hQ3, hk3⟩
      have HQ3 : Hid (EntQ E w1 A3 n3 c3 w3) := hQ3
      have HK3 := Lib.hid (HK1.out.trans' hk3)
      clear hQ3 hk3
      go_wp2_with fail
      refine (HRD.out _ HK3.out).mono ?_
      rintro e w4 ⟨A4, n4, c4, rfl, hQ4, hk4⟩
      replace hQ4 : EntQ E w3 A4 n4 c4 w4 := hQ4
      obtain ⟨L3, e3, i3, f3⟩ := HQ3.out.few (m := 1000) (by have := HFW.out.1; omega) (fun a ha => by have := HFW.out.2 a ha; omega)
      obtain ⟨L4, e4, i4, f4⟩ := hQ4.few (m := 1000) (by have := HFW.out.1; omega) (fun a ha => by have := HFW.out.2 a ha; omega)
      have HK4 := Lib.hid (HK3.out.trans' hk4)
      have HSR := Lib.hid (rsame7_is A3 A4 n3 c3 n4 c4 L3 L4 w4 (EntIn.grow hk4 i3) i4 ⟨by have := f3.1; omega, fun a ha => by have := f3.2 a ha; omega⟩)
      rw [e3, e4] at HSR
      have hself : (E == E) = true := by simp
      rw [hself] at HSR
      have hnoi : ((no : Int) == (no : Int)) = true := by simp
      clear e3 e4 i3 i4 f3 f4 hQ4 hk4 hself
      go_wp2_with fail
      refine HSR.out.mono ?_
      rintro e w5 ⟨rfl, hk5⟩
      have HK5 := Lib.hid (HK4.out.trans' hk5)
      clear hk5 hnoi HSR HDO HRD
      cases q
      · simp only [Bool.false_eq_true, if_false] at HCK
        go_wp2_with fail
        refine (HCK.out _ HK5.out).mono ?_
        rintro e w6 ⟨rfl, hk6⟩
        have HK6 := Lib.hid (HK5.out.trans' hk6)
        clear hk6
        go_wp2_with fail
        refine (HRR.out _ HK6.out).mono ?_
        rintro e w7 ⟨rfl, hk7⟩
        have HK7 := Lib.hid (HK6.out.trans' hk7)
        clear hk7 HCK HRR
        go_wp2_with fail
        refine (HKN.out _ HK7.out).mono ?_
        rintro e w10 ⟨rfl, hk10⟩
        have HK10 := Lib.hid (HK7.out.trans' hk10)
        clear hk10
        go_wp2_with fail
        go_ret
        exact ⟨rfl, HK10.out⟩
      · simp only [if_true] at HCK
        go_wp2_with fail
        refine (HCK.out _ HK5.out).mono ?_
        rintro e w6 ⟨rfl, hk6⟩
        have HK6 := Lib.hid (HK5.out.trans' hk6)
        clear hk6
        go_wp2_with fail
        refine (HRR.out _ HK6.out).mono ?_
        rintro e w7 ⟨rfl, hk7⟩
        have HK7 := Lib.hid (HK6.out.trans' hk7)
        clear hk7 HCK HRR
        go_wp2_with fail
        refine (HKN.out _ HK7.out).mono ?_
        rintro e w10 ⟨rfl, hk10⟩
        have HK10 := Lib.hid (HK7.out.trans' hk10)
        clear hk10
        go_wp2_with fail
        go_ret
        exact ⟨rfl, HK10.out⟩
end Go.Proofs.YtfjlcfbomlfpfaaGreatDoor
