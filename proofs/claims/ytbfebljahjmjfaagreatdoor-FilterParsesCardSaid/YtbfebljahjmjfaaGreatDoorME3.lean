/- Texts of one proof, laid together: F6 F7 F8. -/
import Derived.Test.YtbfebljahjmjfaaGreatDoorME2
import Derived.BigQuiet
/- filter: may a filter be, if those in its Of may; walked. -/
namespace Go.Proofs.YtbfebljahjmjfaaGreatDoor
open Go.RowKit Go.Shelf
set_option linter.unusedVariables false
set_option linter.unusedSimpArgs false
set_option maxRecDepth 100000

/-- One attribute with one Value, laid down. -/
theorem attr_lit8 (w : World) (s v : Txt) (hs : s.length ≤ 9223372036854775807) (hv : v.length ≤ 9223372036854775807) :
    EntIn ((w.alloc (.cells #[.string ⟨v.toArray⟩] 9)).alloc (.cells #[.string ⟨s.toArray⟩, .slice (some ⟨w.heap.size, 0, none⟩) 1 1] 70)) (some ⟨w.heap.size + 1, 0, none⟩) 1 [⟨s, some ⟨w.heap.size, 0, none⟩, 1, 1, [v]⟩] := by
  have h1 := heap_new8 w (.cells #[.string ⟨v.toArray⟩] 9)
  have k2 : Keeps [] (w.alloc (.cells #[.string ⟨v.toArray⟩] 9)) ((w.alloc (.cells #[.string ⟨v.toArray⟩] 9)).alloc (.cells #[.string ⟨s.toArray⟩, .slice (some ⟨w.heap.size, 0, none⟩) 1 1] 70)) := (Keeps.refl [] _).alloc _
  have h2 := heap_new8 (w.alloc (.cells #[.string ⟨v.toArray⟩] 9)) (.cells #[.string ⟨s.toArray⟩, .slice (some ⟨w.heap.size, 0, none⟩) 1 1] 70)
  rw [World.size_alloc] at h2
  have h3 := blk_keep h1 k2 (by simp)
  refine ⟨rfl, fun a ha => ?_, fun _ => ⟨_, 0, rfl, fun i a hi => ?_⟩⟩
  · simp at ha
    subst ha
    refine ⟨hs, Nat.le_refl _, (by decide : 1 ≤ 9223372036854775807), rfl, fun x hx => ?_, fun _ => ⟨_, 0, rfl, fun i x hx => ?_⟩⟩
    · simp at hx
      subst hx
      exact hv
    · cases i with
      | zero =>
        simp at hx
        subst hx
        exact cell_of_blk h3 0
      | succ i => simp at hx
  · cases i with
    | zero =>
      simp at hi
      subst hi
      exact ⟨cell_of_blk h2 0, cell_of_blk h2 1⟩
    | succ i => simp at hi
theorem isattr8_is (s v : Txt) (w : World) (hs : s.length ≤ 9223372036854775807) (hv : v.length ≤ 9223372036854775807) :
    Calls Tryz.prog 133 #[tv s, tv v] w fun e w' => e = .returned (.bool (nameT s && valOk v)) ∧ Keeps [] w w' := by
  have HSM := Lib.hid (small_is s w hs)
  have HCK := Lib.hid (fun (X : World) => check7_is (some ⟨X.heap.size + 1, 0, none⟩) 1 1 [⟨smallL s, some ⟨X.heap.size, 0, none⟩, 1, 1, [v]⟩] _ (attr_lit8 X (smallL s) v (by rw [smallL_len]; exact hs) hv) ⟨by simp, by simp⟩)
  have he : ∀ A : Option Addr, ents [⟨smallL s, A, 1, 1, [v]⟩] = [(smallL s, [v])] := fun _ => rfl
  simp only [he, entOk_one] at HCK
  obtain ⟨q, hq⟩ : ∃ q, (nameT s && valOk v) = q := ⟨_, rfl⟩
  rw [hq] at HCK ⊢
  generalize smallL s = z at HSM HCK
  clear hq he
  unfold tv
  go_enter Tryz.func133, Tryz.ntmps133
  go_wp2_with fail
  refine HSM.out.mono ?_
  rintro e w1 ⟨rfl, hk1⟩
  have HK1 := Lib.hid hk1
  have HK2 : Hid (Keeps [] w ((w1.alloc (.cells #[.string ⟨v.toArray⟩] 9)).alloc (.cells #[.string ⟨z.toArray⟩, .slice (some ⟨w1.heap.size, 0, none⟩) 1 1] 70))) := (hk1.alloc _).alloc _
  clear hk1
  go_wp2_with fail
  refine (HCK.out w1).mono ?_
  rintro e w2 ⟨rfl, hk2⟩
  have HK3 := Lib.hid (HK2.out.trans' hk2)
  clear hk2
  cases q
  · go_wp2_with fail
    go_ret
    exact ⟨rfl, HK3.out⟩
  · go_wp2_with fail
    go_ret
    exact ⟨rfl, HK3.out⟩
/-- The same as aloneF, told by what stands in a filter's own cells. -/
def aloneH (k : Int) (n : Nat) (s v : Txt) : Bool :=
  if k = 1 ∨ k = 2 then s.isEmpty && v.isEmpty else if k = 3 then s.isEmpty && (v.isEmpty && decide (n = 1)) else if k = 4 ∨ k = 5 then decide (n = 0) && (nameT s && valOk v) else if k = 6 then decide (n = 0) && (v.isEmpty && nameT s) else false
theorem aloneF_is (k : Int) (l : List FV) (s v : Txt) : aloneF (.mk k l s v) = aloneH k l.length s v := rfl
set_option maxHeartbeats 4000000 in
theorem maybe8_is (h : FH) (w : World) (hs : h.s.length ≤ 9223372036854775807) (hv : h.v.length ≤ 9223372036854775807) :
    Calls Tryz.prog 78 #[h.val] w fun e w' => e = .returned (.bool (aloneH h.k h.lb h.s h.v)) ∧ Keeps [] w w' := by
  obtain ⟨k, B, n, c, s, v⟩ := h
  dsimp only at hs hv ⊢
  have HAT := Lib.hid (fun X => isattr8_is s v X hs hv)
  have HAN := Lib.hid (fun X => isattr8_is s [97, 110, 121] X hs (by simp))
  have HK : Hid (Keeps [] w (w.alloc (.cells #[.int .i64 k, .slice B n c, .string ⟨s.toArray⟩, .string ⟨v.toArray⟩] 26))) := (Keeps.refl [] w).alloc _
  obtain ⟨P, hP⟩ : ∃ P, aloneH k n s v = P := ⟨_, rfl⟩
  have HP := Lib.hid hP
  rw [hP]
  clear hP
  unfold aloneH at HP
  have han : (nameT s && valOk [97, 110, 121]) = nameT s := by rw [show valOk [97, 110, 121] = true by decide, Bool.and_true]
  rw [han] at HAN
  have hse : (s == ([] : Txt)) = s.isEmpty := by cases s <;> rfl
  have hve : (v == ([] : Txt)) = v.isEmpty := by cases v <;> rfl
  obtain ⟨hs1, hs2, hs3⟩ := tx_beq s [] s.isEmpty hse
  obtain ⟨hv1, hv2, hv3⟩ := tx_beq v [] v.isEmpty hve
  obtain ⟨q1, hq1⟩ : ∃ q, (nameT s && valOk v) = q := ⟨_, rfl⟩
  obtain ⟨q2, hq2⟩ : ∃ q, nameT s = q := ⟨_, rfl⟩
  rw [hq1] at HP HAT
  rw [hq2] at HP HAN
  unfold FH.val tv at *
  clear hq1 hq2 han hse hve hs hv
  obtain ⟨a, ha⟩ : ∃ a, s.isEmpty = a := ⟨_, rfl⟩
  obtain ⟨b, hb⟩ : ∃ b, v.isEmpty = b := ⟨_, rfl⟩
  rw [ha] at HP hs1 hs2 hs3
  rw [hb] at HP hv1 hv2 hv3
  by_cases hk1 : k = 1
  · subst hk1
    rw [if_pos (by simp)] at HP
    cases a
    · go_enter Tryz.func78, Tryz.ntmps78
      go_wp2_with fail
      go_ret
      rw [← HP.out]
      exact ⟨by simp, HK.out⟩
    · cases b
      · go_enter Tryz.func78, Tryz.ntmps78
        go_wp2_with fail
        go_ret
        rw [← HP.out]
        exact ⟨by simp, HK.out⟩
      · go_enter Tryz.func78, Tryz.ntmps78
        go_wp2_with fail
        go_ret
        rw [← HP.out]
        exact ⟨by simp, HK.out⟩
  have hkb1 : (k == 1) = false := by simpa using hk1
  by_cases hk2 : k = 2
  · subst hk2
    rw [if_pos (by simp)] at HP
    cases a
    · go_enter Tryz.func78, Tryz.ntmps78
      go_wp2_with fail
      go_ret
      rw [← HP.out]
      exact ⟨by simp, HK.out⟩
    · cases b
      · go_enter Tryz.func78, Tryz.ntmps78
        go_wp2_with fail
        go_ret
        rw [← HP.out]
        exact ⟨by simp, HK.out⟩
      · go_enter Tryz.func78, Tryz.ntmps78
        go_wp2_with fail
        go_ret
        rw [← HP.out]
        exact ⟨by simp, HK.out⟩
  have hkb2 : (k == 2) = false := by simpa using hk2
  by_cases hk3 : k = 3
  · subst hk3
    rw [if_neg (by simp), if_pos rfl] at HP
    cases a
    · go_enter Tryz.func78, Tryz.ntmps78
      go_wp2_with fail
      go_ret
      rw [← HP.out]
      exact ⟨by simp, HK.out⟩
    · cases b
      · go_enter Tryz.func78, Tryz.ntmps78
        go_wp2_with fail
        go_ret
        rw [← HP.out]
        exact ⟨by simp, HK.out⟩
      · by_cases hn : n = 1
        · subst hn
          go_enter Tryz.func78, Tryz.ntmps78
          go_wp2_with fail
          go_ret
          rw [← HP.out]
          exact ⟨by simp, HK.out⟩
        · have hni : ¬ (n : Int) = 1 := by omega
          have hnb : ((n : Int) == 1) = false := by simpa using hni
          rw [show decide (n = 1) = false by simpa using hn] at HP
          go_enter Tryz.func78, Tryz.ntmps78
          go_wp2_with fail
          go_ret
          rw [← HP.out]
          exact ⟨by simp, HK.out⟩
  have hkb3 : (k == 3) = false := by simpa using hk3
  by_cases hk4 : k = 4
  · subst hk4
    rw [if_neg (by simp), if_neg (by simp), if_pos (by simp)] at HP
    by_cases hn : n = 0
    · subst hn
      go_enter Tryz.func78, Tryz.ntmps78
      go_wp2_with fail
      refine (HAT.out _).mono ?_
      rintro e w1 ⟨rfl, hk1⟩
      have HK1 := Lib.hid (HK.out.trans' hk1)
      clear hk1
      go_wp2_with fail
      go_ret
      rw [← HP.out]
      exact ⟨by simp, HK1.out⟩
    · have hni : ¬ (n : Int) = 0 := by omega
      have hnb : ((n : Int) == 0) = false := by simpa using hni
      rw [show decide (n = 0) = false by simpa using hn] at HP
      go_enter Tryz.func78, Tryz.ntmps78
      go_wp2_with fail
      go_ret
      rw [← HP.out]
      exact ⟨by simp, HK.out⟩
  have hkb4 : (k == 4) = false := by simpa using hk4
  by_cases hk5 : k = 5
  · subst hk5
    rw [if_neg (by simp), if_neg (by simp), if_pos (by simp)] at HP
    by_cases hn : n = 0
    · subst hn
      go_enter Tryz.func78, Tryz.ntmps78
      go_wp2_with fail
      refine (HAT.out _).mono ?_
      rintro e w1 ⟨rfl, hk1⟩
      have HK1 := Lib.hid (HK.out.trans' hk1)
      clear hk1
      go_wp2_with fail
      go_ret
      rw [← HP.out]
      exact ⟨by simp, HK1.out⟩
    · have hni : ¬ (n : Int) = 0 := by omega
      have hnb : ((n : Int) == 0) = false := by simpa using hni
      rw [show decide (n = 0) = false by simpa using hn] at HP
      go_enter Tryz.func78, Tryz.ntmps78
      go_wp2_with fail
      go_ret
      rw [← HP.out]
      exact ⟨by simp, HK.out⟩
  have hkb5 : (k == 5) = false := by simpa using hk5
  by_cases hk6 : k = 6
  · subst hk6
    rw [if_neg (by simp), if_neg (by simp), if_neg (by simp), if_pos rfl] at HP
    by_cases hn : n = 0
    · subst hn
      cases b
      · go_enter Tryz.func78, Tryz.ntmps78
        go_wp2_with fail
        go_ret
        rw [← HP.out]
        exact ⟨by simp, HK.out⟩
      · go_enter Tryz.func78, Tryz.ntmps78
        go_wp2_with fail
        refine (HAN.out _).mono ?_
        rintro e w1 ⟨rfl, hk1⟩
        have HK1 := Lib.hid (HK.out.trans' hk1)
        clear hk1
        go_wp2_with fail
        go_ret
        rw [← HP.out]
        exact ⟨by simp, HK1.out⟩
    · have hni : ¬ (n : Int) = 0 := by omega
      have hnb : ((n : Int) == 0) = false := by simpa using hni
      rw [show decide (n = 0) = false by simpa using hn] at HP
      go_enter Tryz.func78, Tryz.ntmps78
      go_wp2_with fail
      go_ret
      rw [← HP.out]
      exact ⟨by simp, HK.out⟩
  have hkb6 : (k == 6) = false := by simpa using hk6
  rw [if_neg (by simp; omega), if_neg hk3, if_neg (by simp; omega), if_neg hk6] at HP
  go_enter Tryz.func78, Tryz.ntmps78
  go_wp2_with fail
  go_ret
  rw [← HP.out]
  exact ⟨by simp, HK.out⟩
end Go.Proofs.YtbfebljahjmjfaaGreatDoor
/- filter: what sound makes of one; walked. -/
namespace Go.Proofs.YtbfebljahjmjfaaGreatDoor
open Go.RowKit Go.Shelf
set_option linter.unusedVariables false
set_option linter.unusedSimpArgs false
set_option maxRecDepth 100000

set_option maxHeartbeats 4000000 in
theorem soundc_is (h : FH) (A : Option Addr) (n c gn : Nat) (no : Int) (w : World) (hs : h.s.length ≤ 9223372036854775807) (hv : h.v.length ≤ 9223372036854775807) (hn : w.cell? ⟨gn, 0, none⟩ = some (.int .i64 no)) :
    Calls Tryz.prog 77 #[h.val, .slice A n c, .pointer (some ⟨gn, 0, none⟩)] w fun e w' => (aloneH h.k h.lb h.s h.v = true ∧ e = .returned (FH.val ⟨h.k, A, n, c, smallL h.s, h.v⟩) ∨ aloneH h.k h.lb h.s h.v = false ∧ e = gaveUp8 no) ∧ Keeps [] w w' := by
  have HMB := Lib.hid (fun X => maybe8_is h X hs hv)
  have HSM := Lib.hid (fun X => small_is h.s X hs)
  obtain ⟨P, hP⟩ : ∃ P, aloneH h.k h.lb h.s h.v = P := ⟨_, rfl⟩
  rw [hP] at HMB ⊢
  clear hP
  obtain ⟨k, B, m, d, s, v⟩ := h
  dsimp only at HSM ⊢
  generalize smallL s = z at HSM ⊢
  unfold FH.val tv at *
  dsimp only at HMB ⊢
  have HB1 := Lib.hid (heap_new8 w (.cells #[.int .i64 k, .slice B m d, .string ⟨s.toArray⟩, .string ⟨v.toArray⟩] 26))
  have HK1 : Hid (Keeps [] w (w.alloc (.cells #[.int .i64 k, .slice B m d, .string ⟨s.toArray⟩, .string ⟨v.toArray⟩] 26))) := (Keeps.refl [] w).alloc _
  have HMY := Lib.hid (must8_yes no)
  have HMN := Lib.hid (must8_no no)
  have HN := Lib.hid (fun X (hX : Keeps [] w X) => (hX.cell (lt_of_cell hn) (by simp)).trans hn)
  clear hs hv hn
  go_enter Tryz.func77, Tryz.ntmps77
  go_wp2_with fail
  have HK2 : Hid (Keeps [] w ((w.alloc (.cells #[.int .i64 k, .slice B m d, .string ⟨s.toArray⟩, .string ⟨v.toArray⟩] 26)).alloc (.cells #[.int .i64 0, .slice none 0 0, .string ⟨#[]⟩, .string ⟨#[]⟩] 26))) := HK1.out.alloc _
  have HB2 := Lib.hid (blk_keep HB1.out ((Keeps.refl [] _).alloc (.cells #[.int .i64 0, .slice none 0 0, .string ⟨#[]⟩, .string ⟨#[]⟩] 26)) (by simp))
  have HR2 := Lib.hid (heap_new8 (w.alloc (.cells #[.int .i64 k, .slice B m d, .string ⟨s.toArray⟩, .string ⟨v.toArray⟩] 26)) (.cells #[.int .i64 0, .slice none 0 0, .string ⟨#[]⟩, .string ⟨#[]⟩] 26))
  rw [World.size_alloc] at HR2
  have hgR : w.heap.size < w.heap.size + 1 := Nat.lt_succ_self _
  have HLO : Hid (w.heap.size ≤ w.heap.size) := Nat.le_refl _
  generalize (w.alloc (.cells #[.int .i64 k, .slice B m d, .string ⟨s.toArray⟩, .string ⟨v.toArray⟩] 26)).alloc (.cells #[.int .i64 0, .slice none 0 0, .string ⟨#[]⟩, .string ⟨#[]⟩] 26) = W1 at HK2 HB2 HR2 ⊢
  obtain ⟨R, hR⟩ : ∃ R, w.heap.size + 1 = R := ⟨_, rfl⟩
  rw [hR] at HR2 hgR ⊢
  obtain ⟨g, hg⟩ : ∃ g, w.heap.size = g := ⟨_, rfl⟩
  have HLO2 : Hid (w.heap.size ≤ g) := by show _ ≤ _; omega
  rw [hg] at HB2 hgR ⊢
  clear hR hg HB1 HK1 HLO
  refine wp_region_held_drew (S := (fun X => Keeps [] W1 X)) (by kernel_rfl) ((Keeps.refl [] W1).drew) ?_
  intro HS
  refine wpAnyH_take (i := 0) (v := .agg #[.int .i64 k, .slice B m d, .string ⟨s.toArray⟩, .string ⟨v.toArray⟩]) rfl (by kernel_rfl) (by kernel_rfl) (by kernel_rfl) (fun _ _ _ h => h) (Or.inl ⟨by kernel_rfl, ?_⟩) HS ?_
  · intro w5 hw5
    obtain ⟨⟨d0, d1, d2, d3⟩, _⟩ := four_facts8 (blk_keep HB2.out hw5 (by simp))
    go_simp
  simp only [List.getElem_toArray, List.getElem_cons_succ, List.getElem_cons_zero, Act.put, List.setIfInBounds_toArray, List.set_cons_zero, List.set_cons_succ]
  refine wpAnyH_take (i := 2) (v := .int .i64 no) rfl (by kernel_rfl) (by kernel_rfl) (by kernel_rfl) (fun _ _ _ h => h) (Or.inl ⟨by kernel_rfl, ?_⟩) HS ?_
  · intro w5 hw5
    have d0 := HN.out w5 (HK2.out.trans' hw5)
    go_simp
  simp only [List.getElem_toArray, List.getElem_cons_succ, List.getElem_cons_zero, Act.put, List.setIfInBounds_toArray, List.set_cons_zero, List.set_cons_succ]
  refine wpAnyH_ready (rs := [1]) (by kernel_rfl) (by simp) ?_
  refine AllReadyH.cons rfl (fun K hK => ?_) AllReadyH.nil
  go_simp
  refine (HMB.out _).mono ?_
  rintro e w1 ⟨rfl, hk1⟩
  have HK3 := Lib.hid (((Keeps.refl [] W1).drew).trans' hk1)
  clear hk1
  refine hK.out _ _ HK3.out (fun HS => ?_)
  clear hK K
  try simp only [List.getElem_toArray, List.getElem_cons_succ, List.getElem_cons_zero, Act.put, List.setIfInBounds_toArray, List.set_cons_zero, List.set_cons_succ]
  refine wpAnyH_ready (rs := [3]) (by kernel_rfl) (by simp) ?_
  refine AllReadyH.cons rfl (fun K hK => ?_) AllReadyH.nil
  cases P
  · go_simp
    refine (HMN.out _).mono ?_
    rintro e w2 ⟨rfl, rfl⟩
    go_wp2_with fail
    exact ⟨rfl, rfl, HK2.out.trans' HK3.out⟩
  · go_simp
    refine (HMY.out _).mono ?_
    rintro e w2 ⟨rfl, rfl⟩
    refine hK.out _ _ HK3.out (fun HS => ?_)
    clear hK K
    try simp only [List.getElem_toArray, List.getElem_cons_succ, List.getElem_cons_zero, Act.put, List.setIfInBounds_toArray, List.set_cons_zero, List.set_cons_succ]
    refine wpAnyH_done (by kernel_rfl) ?_ _
    obtain ⟨⟨d0, d1, d2, d3⟩, f0, f1, f2, f3⟩ := four_facts8 (blk_keep HB2.out HK3.out (by simp))
    go_wp2_with fail
    refine (HSM.out _).mono ?_
    rintro e w3 ⟨rfl, hk3⟩
    have HK4 := Lib.hid (HK3.out.trans' hk3)
    clear hk3 d0 d1 d2 d3 f0 f1 f2 f3
    have HB3 := Lib.hid (blk_keep HB2.out HK4.out (by simp))
    have HB4 : Hid ((w3.setCell ⟨g, 2, none⟩ (.string ⟨z.toArray⟩)).heap[g]? = some (.cells #[.int .i64 k, .slice B m d, .string ⟨z.toArray⟩, .string ⟨v.toArray⟩] 26 (0, 0))) := heap_setCell_same w3 g 2 _ _ _ HB3.out
    have HB5 : Hid (((w3.setCell ⟨g, 2, none⟩ (.string ⟨z.toArray⟩)).setCell ⟨g, 1, none⟩ (.slice A n c)).heap[g]? = some (.cells #[.int .i64 k, .slice A n c, .string ⟨z.toArray⟩, .string ⟨v.toArray⟩] 26 (0, 0))) := heap_setCell_same _ g 1 _ _ _ HB4.out
    have HK5 : Hid (Keeps [g] w3 ((w3.setCell ⟨g, 2, none⟩ (.string ⟨z.toArray⟩)).setCell ⟨g, 1, none⟩ (.slice A n c))) := ((Keeps.refl [g] w3).setCell (.inl (by simp)) _).setCell (.inl (by simp)) _
    have HR5 := Lib.hid (blk_keep (blk_keep HR2.out HK4.out (by simp)) HK5.out (by simp; omega))
    obtain ⟨⟨d0, d1, d2, d3⟩, f0, f1, f2, f3⟩ := four_facts8 HB3.out
    obtain ⟨⟨x0, x1, x2, x3⟩, y0, y1, y2, y3⟩ := four_facts8 HB4.out
    obtain ⟨⟨p0, p1, p2, p3⟩, q0, q1, q2, q3⟩ := four_facts8 HB5.out
    obtain ⟨⟨r0, r1, r2, r3⟩, s0, s1, s2, s3⟩ := four_facts8 HR5.out
    go_wp2_with fail
    have HR6 := heap_setCell_same _ R 0 _ _ (.int .i64 k) HR5.out
    have HR7 := heap_setCell_same _ R 1 _ _ (.slice A n c) HR6
    have HR8 := heap_setCell_same _ R 2 _ _ (.string ⟨z.toArray⟩) HR7
    have HR9 := heap_setCell_same _ R 3 _ _ (.string ⟨v.toArray⟩) HR8
    refine bodyPost_ret (results_cell_row rfl _ _ R _ #[.int .i64 k, .slice A n c, .string ⟨z.toArray⟩, .string ⟨v.toArray⟩] (0, 0) _ rfl HR9 Tryz.underlying26 rfl (by kernel_rfl)) rfl ?_
    refine ⟨rfl, ?_⟩
    have k9 := (((HK5.out.mono (cs := [g, R]) (by simp)).setCell (.inl (by simp)) (.int .i64 k) (p := ⟨R, 0, none⟩)).setCell (.inl (by simp)) (.slice A n c) (p := ⟨R, 1, none⟩)).setCell (.inl (by simp)) (.string ⟨z.toArray⟩) (p := ⟨R, 2, none⟩)
    have k10 := k9.setCell (.inl (by simp)) (.string ⟨v.toArray⟩) (p := ⟨R, 3, none⟩)
    exact (HK2.out.trans' HK4.out).trans k10 (fun x hx => .inr (by have := HLO2.out; simp at hx; rcases hx with rfl | rfl <;> omega))
end Go.Proofs.YtbfebljahjmjfaaGreatDoor
/- filter: rows of filters in memory of their own; what a round of through finds. -/
namespace Go.Proofs.YtbfebljahjmjfaaGreatDoor
open Go.RowKit Go.Shelf
set_option linter.unusedVariables false
set_option linter.unusedSimpArgs false
set_option maxRecDepth 100000

/-- The cells of a row of filters. -/
def headsF (hs : List FH) : List Value := hs.flatMap FH.list
theorem headsF_len : ∀ (hs : List FH), (headsF hs).length = hs.length * 4
  | [] => rfl
  | h :: r => by
    have := headsF_len r
    unfold headsF at *
    rw [List.flatMap_cons, List.length_append, this, List.length_cons]
    show 4 + _ = _
    omega
theorem headsF_get : ∀ (hs : List FH) (i q : Nat) (h : FH) (u : Value), hs[i]? = some h → h.list[q]? = some u → (headsF hs)[i * 4 + q]? = some u
  | x :: r, 0, q, h, u, hh, hu => by
    simp at hh
    subst hh
    have hq : q < x.list.length := (List.getElem?_eq_some_iff.1 hu).1
    unfold headsF
    rw [List.flatMap_cons, Nat.zero_mul, Nat.zero_add, List.getElem?_append_left hq]
    exact hu
  | x :: r, i + 1, q, h, u, hh, hu => by
    have h9 := headsF_get r i q h u (by simpa using hh) hu
    unfold headsF at *
    have h5 : x.list.length = 4 := rfl
    rw [List.flatMap_cons, List.getElem?_append_right (by rw [h5]; omega), h5, show (i + 1) * 4 + q - 4 = i * 4 + q by omega]
    exact h9
theorem headsF_snoc (hs : List FH) (h : FH) : headsF (hs ++ [h]) = headsF hs ++ h.list := by simp [headsF]
theorem fils_own {X : World} {base n d : Nat} {g : Option Addr} {hs : List FH} {l : List FV} (ho : X.ownsRow base 26 4 (.slice g n d) n (headsF hs)) (hn : hs.length = n) (hl : l.length = n) (hb : ∀ (i : Nat) (t : FV) (h : FH), l[i]? = some t → hs[i]? = some h → FilAt X t h) : FilsAt X g 0 l := by
  refine fils_of fun j t ht => ?_
  have hj : j < n := by have := (List.getElem?_eq_some_iff.1 ht).1; omega
  have hh : hs[j]? = some (hs[j]'(by omega)) := List.getElem?_eq_getElem _
  rcases ho.2 with ⟨_, h0⟩ | ⟨k, cap, cur, hv, _⟩
  · omega
  · injection hv with e1 e2 e3
    subst e1
    refine ⟨k, 0, _, rfl, fun q u hu => ?_, hb j t _ ht hh⟩
    have h9 := ho.cells (g := k) rfl (j * 4 + q) u (headsF_get hs j q _ u hh hu)
    rw [add_at] at h9
    rw [Nat.zero_add, Nat.zero_add]
    rwa [Nat.zero_add] at h9
theorem src_one8 (w : World) (h : FH) (t : TypeId) : Src (w.alloc (.cells #[.int .i64 h.k, .slice h.B h.lb h.cb, .string ⟨h.s.toArray⟩, .string ⟨h.v.toArray⟩] t)) (some ⟨w.heap.size, 0, none⟩) 1 h.list := by
  refine ⟨(fun h => by cases h), fun ad hA j u hu => ?_⟩
  cases hA
  have h9 : ([.int .i64 h.k, .slice h.B h.lb h.cb, .string ⟨h.s.toArray⟩, .string ⟨h.v.toArray⟩] : List Value)[j]? = some u := hu
  rw [add_at, Nat.zero_add, World.cell?_alloc_new]
  simpa using h9
mutual
theorem thruF_le (ok : FV → Bool) : ∀ (t : FV) (d m n : Nat), thruF ok d m t = some n → m + 1 ≤ n ∧ m < 200 ∧ d ≤ 16 ∧ n ≤ 200
  | .mk k l s v, d, m, n, h => by
    unfold thruF at h
    split at h
    · rename_i hc
      cases hq : thruL ok (d + 1) (m + 1) l with
      | none => rw [hq] at h; cases h
      | some n' =>
        rw [hq] at h
        dsimp only at h
        split at h
        · injection h with h
          subst h
          obtain ⟨h1, h2⟩ := thruL_le ok l (d + 1) (m + 1) n' hq
          exact ⟨by omega, hc.1, hc.2, h2 (by omega)⟩
        · cases h
    · cases h
theorem thruL_le (ok : FV → Bool) : ∀ (l : List FV) (d m n : Nat), thruL ok d m l = some n → m + l.length ≤ n ∧ (m ≤ 200 → n ≤ 200)
  | [], d, m, n, h => by
    unfold thruL at h
    injection h with h
    subst h
    exact ⟨Nat.le_refl _, id⟩
  | t :: r, d, m, n, h => by
    unfold thruL at h
    cases hq : thruF ok d m t with
    | none => rw [hq] at h; cases h
    | some n' =>
      rw [hq] at h
      obtain ⟨h1, h2, h3, h4⟩ := thruF_le ok t d m n' hq
      obtain ⟨h5, h6⟩ := thruL_le ok r d n' n h
      exact ⟨by simp; omega, fun _ => h6 h4⟩
end
/-- What does not turn: what through's closures hold. -/
structure EnvF (gp gx gw gm gn : Nat) (fx : FuncId) (vw : Value) (w : World) : Prop where
  pass : w.cell? ⟨gp, 0, none⟩ = some (.func (.func 134) #[] #[.pointer (some ⟨gm, 0, none⟩), .pointer (some ⟨gn, 0, none⟩)])
  next : w.cell? ⟨gx, 0, none⟩ = some (.func (.func fx) #[] #[.pointer (some ⟨gp, 0, none⟩), .pointer (some ⟨gx, 0, none⟩), .pointer (some ⟨gw, 0, none⟩)])
  with_ : w.cell? ⟨gw, 0, none⟩ = some vw
  n1 : gp ≠ gm
  n2 : gx ≠ gm
  n3 : gw ≠ gm
theorem EnvF.keep {gp gx gw gm gn : Nat} {fx : FuncId} {vw : Value} {w w' : World} (h : EnvF gp gx gw gm gn fx vw w) (hk : Keeps [gm] w w') : EnvF gp gx gw gm gn fx vw w' :=
  ⟨(hk.cell (p := ⟨gp, 0, none⟩) (lt_of_cell h.pass) (by simpa using h.n1)).trans h.pass, (hk.cell (p := ⟨gx, 0, none⟩) (lt_of_cell h.next) (by simpa using h.n2)).trans h.next, (hk.cell (p := ⟨gw, 0, none⟩) (lt_of_cell h.with_) (by simpa using h.n3)).trans h.with_, h.n1, h.n2, h.n3⟩
/-- How sound's through ends. -/
def ThrQ (no : Int) (d m : Nat) (t : FV) (gm gn : Nat) (w : World) (e : Ending) (w' : World) : Prop :=
  ((∃ n h, thruF aloneF d m t = some n ∧ e = .returned (FH.val h) ∧ PassAt w' gm gn n no ∧ ∀ (E : List Nat) X, (∀ x ∈ E, x < w.heap.size) → Keeps E w' X → FilAt X (lowF t) h) ∨ thruF aloneF d m t = none ∧ e = gaveUp8 no) ∧ Keeps [gm] w w'
/-- What a round finds. -/
structure ThrS (w wr : World) (gm gn : Nat) (no : Int) (d m : Nat) (l : List FV) (j : Nat) (A : Option Addr) (c : Nat) (hs : List FH) (n : Nat) : Prop where
  cnt : thruL aloneF (d + 1) (m + 1) (l.take j) = some n
  pass : PassAt wr gm gn n no
  row : wr.ownsRow (w.heap.size + 2) 26 4 (.slice A j c) j (headsF hs)
  hsl : hs.length = j
  items : ∀ (E : List Nat) X, (∀ x ∈ E, x < w.heap.size + 2 ∨ (Value.slice A j c).ownBlock = some x) → Keeps E wr X → ∀ (i : Nat) (t : FV) (h : FH), (l.take j)[i]? = some t → hs[i]? = some h → FilAt X (lowF t) h
  keep : Keeps [gm] w wr
  siz : w.heap.size + 2 ≤ wr.heap.size
theorem ThrS.step {w wr w5 w6 w7 w8 : World} {gm gn : Nat} {no : Int} {d m : Nat} {l : List FV} {j : Nat} {A A8 : Option Addr} {c c8 : Nat} {hs : List FH} {n n' : Nat} (H : ThrS w wr gm gn no d m l j A c hs n) (hgm : gm < w.heap.size) (hgn : gn < w.heap.size)
    {t : FV} {h : FH} (ht : l[j]? = some t) (k5 : Keeps [] wr w5) (hn : thruF aloneF (d + 1) n t = some n') (k6 : Keeps [gm] w5 w6) (hp6 : PassAt w6 gm gn n' no) (hp : ∀ (E : List Nat) X, (∀ x ∈ E, x < w5.heap.size) → Keeps E w6 X → FilAt X (lowF t) h) (k7 : Keeps [] w6 w7)
    (ho : w8.ownsRow (w.heap.size + 2) 26 4 (.slice A8 (j + 1) c8) (j + 1) (headsF hs ++ h.list)) (hg : w7.grownBy w8 (Value.slice A j c).ownBlock) (hs8 : (Value.slice A8 (j + 1) c8).ownBlock = (Value.slice A j c).ownBlock ∨ (Value.slice A8 (j + 1) c8).ownBlock = some w7.heap.size) :
    ThrS w w8 gm gn no d m l (j + 1) A8 c8 (hs ++ [h]) n' := by
  have hz5 := k5.size
  have hz6 := k6.size
  have hz7 := k7.size
  have hsz := H.siz
  have k8 : Keeps (Value.slice A j c).ownBlock.toList w7 w8 := Keeps.of_grown hg (fun x hx => .inl (by rw [hx]; simp))
  have hz8 := k8.size
  have hvl : ∀ x ∈ (Value.slice A j c).ownBlock.toList, w.heap.size + 2 ≤ x ∧ x < wr.heap.size := fun x hx => H.row.lt x (by simpa using hx)
  have k68 : Keeps (Value.slice A j c).ownBlock.toList w6 w8 := (k7.mono (by simp)).trans k8 (fun x hx => .inl hx)
  have kr8 : Keeps (gm :: (Value.slice A j c).ownBlock.toList) wr w8 := ((k5.mono (cs := [gm]) (by simp)).trans' k6 |>.mono (cs := gm :: (Value.slice A j c).ownBlock.toList) (by simp)).trans k68 (fun x hx => .inl (List.mem_cons_of_mem _ hx))
  have htk : l.take (j + 1) = l.take j ++ [t] := by rw [List.take_add_one, ht]; rfl
  refine ⟨by rw [htk, thruL_snoc, H.cnt]; exact hn, hp6.keep k68 (fun hm => by have := hvl gm hm; omega) (fun hm => by have := hvl gn hm; omega), by rw [headsF_snoc]; exact ho, by simp [H.hsl], fun E X hE hk i t' h' ht' hh' => ?_, H.keep.trans kr8 (fun x hx => ?_), by omega⟩
  · have hcase : ∀ x ∈ E, x < wr.heap.size ∨ w7.heap.size ≤ x := fun x hx => by
      rcases hE x hx with h9 | h9
      · exact .inl (by omega)
      · rcases hs8 with h10 | h10
        · rw [h10] at h9
          exact .inl (hvl x (by rw [h9]; simp)).2
        · rw [h10] at h9
          injection h9 with h9
          exact .inr (by omega)
    have hold : ∀ x ∈ E, x < wr.heap.size → x < w.heap.size + 2 ∨ (Value.slice A j c).ownBlock = some x := fun x hx hlt => by
      rcases hE x hx with h9 | h9
      · exact .inl h9
      · rcases hs8 with h10 | h10
        · rw [h10] at h9; exact .inr h9
        · rw [h10] at h9
          injection h9 with h9
          omega
    rw [htk] at ht'
    have hjl : (l.take j).length = j := by
      rw [List.length_take]
      have := (List.getElem?_eq_some_iff.1 ht).1
      omega
    by_cases hj : i < j
    · rw [List.getElem?_append_left (by rw [hjl]; exact hj)] at ht'
      rw [List.getElem?_append_left (by rw [H.hsl]; exact hj)] at hh'
      have kX : Keeps ((gm :: (Value.slice A j c).ownBlock.toList) ++ E.filter (fun x => decide (x < wr.heap.size))) wr X := by
        have k10 : Keeps ((gm :: (Value.slice A j c).ownBlock.toList) ++ E.filter (fun x => decide (x < wr.heap.size))) wr w8 := kr8.mono (fun x hx => .inl (List.mem_append_left _ hx))
        refine k10.trans hk (fun x hx => ?_)
        rcases hcase x hx with h9 | h9
        · exact .inl (List.mem_append_right _ (List.mem_filter.2 ⟨hx, by simpa using h9⟩))
        · exact .inr (by omega)
      refine H.items _ X (fun x hx => ?_) kX i t' h' ht' hh'
      rcases List.mem_append.1 hx with hx | hx
      · simp only [List.mem_cons] at hx
        rcases hx with hx | hx
        · exact .inl (by omega)
        · exact .inr (by simpa using hx)
      · obtain ⟨h9, h10⟩ := List.mem_filter.1 hx
        exact hold x h9 (by simpa using h10)
    · have hja : i = j := by
        have := (List.getElem?_eq_some_iff.1 ht').1
        simp at this
        omega
      subst hja
      rw [List.getElem?_append_right (by rw [hjl]; exact Nat.le_refl _), hjl] at ht'
      rw [List.getElem?_append_right (by rw [H.hsl]; exact Nat.le_refl _), H.hsl] at hh'
      simp at ht' hh'
      subst ht' hh'
      have kX : Keeps ((Value.slice A i c).ownBlock.toList ++ E.filter (fun x => decide (x < wr.heap.size))) w6 X := by
        have k10 : Keeps ((Value.slice A i c).ownBlock.toList ++ E.filter (fun x => decide (x < wr.heap.size))) w6 w8 := k68.mono (fun x hx => .inl (List.mem_append_left _ hx))
        refine k10.trans hk (fun x hx => ?_)
        rcases hcase x hx with h9 | h9
        · exact .inl (List.mem_append_right _ (List.mem_filter.2 ⟨hx, by simpa using h9⟩))
        · exact .inr (by omega)
      refine hp _ X (fun x hx => ?_) kX
      rcases List.mem_append.1 hx with hx | hx
      · have := (hvl x hx).2; omega
      · have : x < wr.heap.size := by simpa using (List.mem_filter.1 hx).2
        omega
  · simp only [List.mem_cons] at hx
    rcases hx with hx | hx
    · exact .inl (by simp [hx])
    · exact .inr (by have := (hvl x hx).1; omega)
end Go.Proofs.YtbfebljahjmjfaaGreatDoor
