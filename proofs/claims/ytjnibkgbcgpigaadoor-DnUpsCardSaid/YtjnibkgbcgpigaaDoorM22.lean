/- Texts of one proof, laid together: N38. -/
import Derived.Test.YtjnibkgbcgpigaaDoorM16
import Derived.BigQuiet
import Derived.Deep.RegionHeld3
import Derived.Deep.RegionHeldLaw
/- dn: are two names alike, is one below the other; walked. -/
namespace Go.Proofs.YtjnibkgbcgpigaaDoor
open Go.RowKit Go.Shelf
set_option linter.unusedVariables false
set_option linter.unusedSimpArgs false
set_option maxRecDepth 100000

def alikeP (p q : Part6) : Bool := (p.1 == q.1) && (smallL p.2 == smallL q.2)
/-- All parts alike, one by one, of two rows of the same length. -/
def alikeR (a b : List Part6) : Bool := (a.zip b).all fun x => alikeP x.1 x.2
def alikeD (a b : List Part6) : Bool := (nameOk a && nameOk b) && (decide (a.length = b.length) && alikeR a b)

theorem two_news2 {w : World} {t1 t2 : TypeId} {a1 b1 a2 b2 : Value} : (∀ X, Keeps [] ((w.alloc (.cells #[a1, b1] t1)).alloc (.cells #[a2, b2] t2)) X → (X.cell? ⟨w.heap.size, 0, none⟩ = some a1 ∧ X.cell? ⟨w.heap.size, 1, none⟩ = some b1) ∧ (X.cell? ⟨w.heap.size + 1, 0, none⟩ = some a2 ∧ X.cell? ⟨w.heap.size + 1, 1, none⟩ = some b2)) := by
  intro X hk
  have h1 : (w.alloc (.cells #[a1, b1] t1)).heap[w.heap.size]? = some (.cells #[a1, b1] t1 (0, 0)) := heap_new8 w _
  have h2 : ((w.alloc (.cells #[a1, b1] t1)).alloc (.cells #[a2, b2] t2)).heap[(w.alloc (.cells #[a1, b1] t1)).heap.size]? = some (.cells #[a2, b2] t2 (0, 0)) := heap_new8 _ _
  rw [show (w.alloc (.cells #[a1, b1] t1)).heap.size = w.heap.size + 1 by simp only [World.alloc, Array.size_push]] at h2
  have h3 := blk_keep h1 ((Keeps.refl [] _).alloc (.cells #[a2, b2] t2)) (by simp)
  exact ⟨two_facts6 (blk_keep h3 hk (by simp)), two_facts6 (blk_keep h2 hk (by simp))⟩
theorem str_beq (s t : List UInt8) (r : Bool) (h : (s == t) = r) : ((⟨s.toArray⟩ : ByteArray) == ⟨t.toArray⟩) = r := by
  rw [← h]
  show (s.toArray == t.toArray) = (s == t)
  simp

set_option maxHeartbeats 4000000 in
theorem alikeparts_is (p q : Part6) (w : World) (h2 : p.2.length ≤ 9223372036854775807) (h4 : q.2.length ≤ 9223372036854775807) : Calls Tryd.prog 41 #[.agg #[tv p.1, tv p.2], .agg #[tv q.1, tv q.2]] w fun e w' => e = .returned (.bool (alikeP p q)) ∧ Keeps [] w w' := by
  obtain ⟨s, v⟩ := p
  obtain ⟨s', v'⟩ := q
  dsimp only at h2 h4
  unfold tv
  have HF := Lib.hid (two_news2 (w := w) (t1 := 38) (t2 := 38) (a1 := .string ⟨s.toArray⟩) (b1 := .string ⟨v.toArray⟩) (a2 := .string ⟨s'.toArray⟩) (b2 := .string ⟨v'.toArray⟩))
  have hk0 : Keeps [] w ((w.alloc (.cells #[.string ⟨s.toArray⟩, .string ⟨v.toArray⟩] 38)).alloc (.cells #[.string ⟨s'.toArray⟩, .string ⟨v'.toArray⟩] 38)) := ((Keeps.refl [] w).alloc _).alloc _
  obtain ⟨W0, hW0⟩ : ∃ W0, (w.alloc (.cells #[.string ⟨s.toArray⟩, .string ⟨v.toArray⟩] 38)).alloc (.cells #[.string ⟨s'.toArray⟩, .string ⟨v'.toArray⟩] 38) = W0 := ⟨_, rfl⟩
  rw [hW0] at HF hk0
  have HK0 := Lib.hid hk0
  have HS1 := Lib.hid (fun X => small_is v X h2)
  have HS2 := Lib.hid (fun X => small_is v' X h4)
  have HW0 := Lib.hid hW0
  obtain ⟨⟨c0, c1⟩, ⟨c2, c3⟩⟩ := HF.out W0 (Keeps.refl _ _)
  obtain ⟨r, hr⟩ : ∃ r, alikeP (s, v) (s', v') = r := ⟨_, rfl⟩
  rw [hr]
  unfold alikeP at hr
  dsimp only at hr
  clear hk0 h2 h4 hW0
  by_cases he : s = s'
  · subst he
    obtain ⟨z, hz⟩ : ∃ z, smallL v = z := ⟨_, rfl⟩
    obtain ⟨z', hz'⟩ : ∃ z', smallL v' = z' := ⟨_, rfl⟩
    rw [hz] at HS1 hr
    rw [hz'] at HS2 hr
    have hr2 : (z == z') = r := by rw [← hr]; simp
    clear hr hz hz'
    go_enter Tryd.func41, Tryd.ntmps41
    go_wp2_with fail
    rw [HW0.out]
    refine wp_region_held_drew (S := (fun X => (X.cell? ⟨w.heap.size, 0, none⟩ = some (.string ⟨s.toArray⟩) ∧ X.cell? ⟨w.heap.size, 1, none⟩ = some (.string ⟨v.toArray⟩)) ∧ (X.cell? ⟨w.heap.size + 1, 0, none⟩ = some (.string ⟨s.toArray⟩) ∧ X.cell? ⟨w.heap.size + 1, 1, none⟩ = some (.string ⟨v'.toArray⟩)))) (by kernel_rfl) (HF.out _ ((Keeps.refl [] W0).drew)) ?_
    intro HS
    refine wpAnyH_take (i := 0) (v := .pointer (some ⟨w.heap.size, 0, none⟩)) rfl (by kernel_rfl) (by kernel_rfl) (by kernel_rfl) (fun _ _ _ h => h) (Or.inl ⟨by kernel_rfl, ?_⟩) HS ?_
    · intro w5 hw5
      obtain ⟨⟨d0, d1⟩, ⟨d2, d3⟩⟩ := hw5
      go_simp
    simp only [Act.put, List.setIfInBounds_toArray, List.set_cons_zero, List.set_cons_succ]
    refine wpAnyH_take (i := 1) (v := .string ⟨s.toArray⟩) rfl (by kernel_rfl) (by kernel_rfl) (by kernel_rfl) (fun _ _ _ h => h) (Or.inl ⟨by kernel_rfl, ?_⟩) HS ?_
    · intro w5 hw5
      obtain ⟨⟨d0, d1⟩, ⟨d2, d3⟩⟩ := hw5
      go_simp
    simp only [Act.put, List.setIfInBounds_toArray, List.set_cons_zero, List.set_cons_succ]
    refine wpAnyH_take (i := 2) (v := .pointer (some ⟨w.heap.size + 1, 0, none⟩)) rfl (by kernel_rfl) (by kernel_rfl) (by kernel_rfl) (fun _ _ _ h => h) (Or.inl ⟨by kernel_rfl, ?_⟩) HS ?_
    · intro w5 hw5
      obtain ⟨⟨d0, d1⟩, ⟨d2, d3⟩⟩ := hw5
      go_simp
    simp only [Act.put, List.setIfInBounds_toArray, List.set_cons_zero, List.set_cons_succ]
    refine wpAnyH_take (i := 3) (v := .string ⟨s.toArray⟩) rfl (by kernel_rfl) (by kernel_rfl) (by kernel_rfl) (fun _ _ _ h => h) (Or.inl ⟨by kernel_rfl, ?_⟩) HS ?_
    · intro w5 hw5
      obtain ⟨⟨d0, d1⟩, ⟨d2, d3⟩⟩ := hw5
      go_simp
    simp only [Act.put, List.setIfInBounds_toArray, List.set_cons_zero, List.set_cons_succ]
    refine wpAnyH_take (i := 4) (v := .bool true) rfl (by kernel_rfl) (by kernel_rfl) (by kernel_rfl) (fun _ _ _ h => h) (Or.inl ⟨by kernel_rfl, ?_⟩) HS ?_
    · intro w5 hw5
      obtain ⟨⟨d0, d1⟩, ⟨d2, d3⟩⟩ := hw5
      go_simp
    simp only [Act.put, List.setIfInBounds_toArray, List.set_cons_zero, List.set_cons_succ]
    refine wpAnyH_take (i := 5) (v := .bool true) rfl (by kernel_rfl) (by kernel_rfl) (by kernel_rfl) (fun _ _ _ h => h) (Or.inl ⟨by kernel_rfl, ?_⟩) HS ?_
    · intro w5 hw5
      obtain ⟨⟨d0, d1⟩, ⟨d2, d3⟩⟩ := hw5
      go_simp
    simp only [Act.put, List.setIfInBounds_toArray, List.set_cons_zero, List.set_cons_succ]
    refine wpAnyH_take (i := 6) (v := .pointer (some ⟨w.heap.size, 1, none⟩)) rfl (by kernel_rfl) (by kernel_rfl) (by kernel_rfl) (fun _ _ _ h => h) (Or.inl ⟨by kernel_rfl, ?_⟩) HS ?_
    · intro w5 hw5
      obtain ⟨⟨d0, d1⟩, ⟨d2, d3⟩⟩ := hw5
      go_simp
    simp only [Act.put, List.setIfInBounds_toArray, List.set_cons_zero, List.set_cons_succ]
    refine wpAnyH_take (i := 7) (v := .string ⟨v.toArray⟩) rfl (by kernel_rfl) (by kernel_rfl) (by kernel_rfl) (fun _ _ _ h => h) (Or.inl ⟨by kernel_rfl, ?_⟩) HS ?_
    · intro w5 hw5
      obtain ⟨⟨d0, d1⟩, ⟨d2, d3⟩⟩ := hw5
      go_simp
    simp only [Act.put, List.setIfInBounds_toArray, List.set_cons_zero, List.set_cons_succ]
    refine wpAnyH_take (i := 9) (v := .pointer (some ⟨w.heap.size + 1, 1, none⟩)) rfl (by kernel_rfl) (by kernel_rfl) (by kernel_rfl) (fun _ _ _ h => h) (Or.inl ⟨by kernel_rfl, ?_⟩) HS ?_
    · intro w5 hw5
      obtain ⟨⟨d0, d1⟩, ⟨d2, d3⟩⟩ := hw5
      go_simp
    simp only [Act.put, List.setIfInBounds_toArray, List.set_cons_zero, List.set_cons_succ]
    refine wpAnyH_take (i := 10) (v := .string ⟨v'.toArray⟩) rfl (by kernel_rfl) (by kernel_rfl) (by kernel_rfl) (fun _ _ _ h => h) (Or.inl ⟨by kernel_rfl, ?_⟩) HS ?_
    · intro w5 hw5
      obtain ⟨⟨d0, d1⟩, ⟨d2, d3⟩⟩ := hw5
      go_simp
    simp only [Act.put, List.setIfInBounds_toArray, List.set_cons_zero, List.set_cons_succ]
    refine wpAnyH_ready (rs := [8]) (by kernel_rfl) (by simp) ?_
    refine AllReadyH.cons rfl (fun K hK => ?_) AllReadyH.nil
    go_simp
    refine (HS1.out _).mono ?_
    rintro e w1 ⟨rfl, hk1⟩
    have K1 : Hid (Keeps [] W0 w1) := Keeps.trans' ((Keeps.refl [] W0).drew) hk1
    clear hk1
    refine hK.out _ _ (HF.out _ K1.out) (fun HS => ?_)
    clear hK K
    refine wpAnyH_ready (rs := [11]) (by kernel_rfl) (by simp) ?_
    refine AllReadyH.cons rfl (fun K hK => ?_) AllReadyH.nil
    go_simp
    refine (HS2.out _).mono ?_
    rintro e w2 ⟨rfl, hk2⟩
    have K2 : Hid (Keeps [] W0 w2) := K1.out.trans' hk2
    clear hk2
    refine hK.out _ _ (HF.out _ K2.out) (fun HS => ?_)
    clear hK K
    refine wpAnyH_take (i := 12) (v := .bool r) rfl (by kernel_rfl) (by kernel_rfl) (by kernel_rfl) (fun _ _ _ h => h) (Or.inl ⟨by kernel_rfl, ?_⟩) HS ?_
    · intro w5 hw5
      obtain ⟨⟨d0, d1⟩, ⟨d2, d3⟩⟩ := hw5
      go_simp
    simp only [Act.put, List.setIfInBounds_toArray, List.set_cons_zero, List.set_cons_succ]
    refine wpAnyH_take (i := 13) (v := .bool r) rfl (by kernel_rfl) (by kernel_rfl) (by kernel_rfl) (fun _ _ _ h => h) (Or.inl ⟨by kernel_rfl, ?_⟩) HS ?_
    · intro w5 hw5
      obtain ⟨⟨d0, d1⟩, ⟨d2, d3⟩⟩ := hw5
      go_simp
    simp only [Act.put, List.setIfInBounds_toArray, List.set_cons_zero, List.set_cons_succ]
    refine wpAnyH_ready (rs := [14]) (by kernel_rfl) (by simp) ?_
    refine AllReadyH.cons rfl (fun K hK => ?_) AllReadyH.nil
    go_simp
    refine hK.out _ _ (HF.out _ K2.out) (fun HS => ?_)
    clear hK K
    refine wpAnyH_done (by kernel_rfl) ?_ _
    go_wp2_with fail
    go_ret
    exact ⟨rfl, HK0.out.trans' K2.out⟩
  · have hne : (s == s') = false := by simpa using he
    obtain rfl : r = false := by rw [← hr, hne]; rfl
    have hnb := str_beq s s' false hne
    clear hr
    go_enter Tryd.func41, Tryd.ntmps41
    go_wp2_with fail
    rw [HW0.out]
    go_quiet (fail)
    go_wp2_with fail
    go_ret
    exact ⟨rfl, HK0.out.drewN _⟩

/-- A row's parts, over a place. -/
theorem zip_take {a b : List Part6} {j : Nat} {p q : Part6} (hp : a[j]? = some p) (hq : b[j]? = some q) : ((a.zip b).take (j + 1)).all (fun x => alikeP x.1 x.2) = (((a.zip b).take j).all (fun x => alikeP x.1 x.2) && alikeP p q) := by
  refine all_take2 (xs := a.zip b) (p := fun x => alikeP x.1 x.2) (u := (p, q)) ?_
  rw [List.getElem?_zip_eq_some]
  exact ⟨hp, hq⟩
theorem zip_cut {a b : List Part6} {j : Nat} {p q : Part6} (hp : a[j]? = some p) (hq : b[j]? = some q) (h : alikeP p q = false) : alikeR a b = false := by
  refine all_cut2 (xs := a.zip b) (p := fun x => alikeP x.1 x.2) (j := j) (u := (p, q)) ?_ h
  rw [List.getElem?_zip_eq_some]
  exact ⟨hp, hq⟩

set_option maxHeartbeats 4000000 in
theorem equalfunc_is (A B : Option Addr) (n m c c' : Nat) (a b : List Part6) (w : World) (ha : DnIn w A n a) (hb : DnIn w B m b) (hn : n ≤ 4611686018427387904) :
    Calls Tryd.prog 40 #[.slice A n c, .slice B m c', .func (.func 41) #[] #[]] w fun e w' => e = .returned (.bool (decide (n = m) && alikeR a b)) ∧ Keeps [] w w' := by
  have HA := Lib.hid ha
  have HB := Lib.hid hb
  clear ha hb
  by_cases hnm : n = m
  · subst hnm
    rw [show decide (n = n) = true by simp]
    go_enter Tryd.func40, Tryd.ntmps40
    go_wp2_with fail
    go_loopw [17] (fun i wr => ∃ j : Nat, i = .int .i64 (j : Int) ∧ j ≤ n ∧ Hid (((a.zip b).take j).all (fun x => alikeP x.1 x.2) = true) ∧ Hid (Keeps [] w wr)) (fun i _ => n - (intOf i).toNat)
    case atStart => exact ⟨0, rfl, Nat.zero_le _, rfl, Keeps.refl _ _⟩
    case round =>
      obtain ⟨j, rfl, hj, HZ, HKR⟩ := hrel
      by_cases hlt : j < n
      · obtain ⟨hl, hp, hc9⟩ := HA.out.grow HKR.out
        obtain ⟨b1, o1, hA9, hcc⟩ := hc9 (by omega)
        obtain ⟨hl2, hp2, hc8⟩ := HB.out.grow HKR.out
        obtain ⟨b2, o2, hB9, hcd⟩ := hc8 (by omega)
        clear hc9 hc8
        subst hA9 hB9
        obtain ⟨p, hu⟩ : ∃ p, a[j]? = some p := ⟨_, List.getElem?_eq_getElem (by omega)⟩
        obtain ⟨q, hu2⟩ : ∃ q, b[j]? = some q := ⟨_, List.getElem?_eq_getElem (by omega)⟩
        obtain ⟨c0, c1⟩ := hcc j p hu
        obtain ⟨c2, c3⟩ := hcd j q hu2
        have hpp := hp p (List.mem_of_getElem? hu)
        have hqq := hp2 q (List.mem_of_getElem? hu2)
        have HM := Lib.hid (fun X => alikeparts_is p q X hpp.2 hqq.2)
        have HT := Lib.hid (zip_take hu hu2)
        have HC := Lib.hid (fun h => zip_cut hu hu2 h)
        obtain ⟨r, hr⟩ : ∃ r, alikeP p q = r := ⟨_, rfl⟩
        rw [hr] at HM HT HC
        obtain ⟨s, v⟩ := p
        obtain ⟨s', v'⟩ := q
        dsimp only at c0 c1 c2 c3 HM
        unfold tv at c0 c1 c2 c3 HM
        have HF := Lib.hid (two_news2 (w := wr) (t1 := 38) (t2 := 38) (a1 := .string ⟨s.toArray⟩) (b1 := .string ⟨v.toArray⟩) (a2 := .string ⟨s'.toArray⟩) (b2 := .string ⟨v'.toArray⟩))
        have HK2 : Hid (Keeps [] w ((wr.alloc (.cells #[.string ⟨s.toArray⟩, .string ⟨v.toArray⟩] 38)).alloc (.cells #[.string ⟨s'.toArray⟩, .string ⟨v'.toArray⟩] 38))) := (HKR.out.alloc _).alloc _
        clear hcc hcd hu hu2 hr hpp hqq hp hp2 hl hl2
        have hjj : (j : Int) < (n : Int) := by omega
        have hal : Keeps [] wr (wr.alloc (.cells #[.string ⟨s.toArray⟩, .string ⟨v.toArray⟩] 38)) := (Keeps.refl [] wr).alloc _
        have e2 := (hal.cell (lt_of_cell c2) (by simp)).trans c2
        have e3 := (hal.cell (lt_of_cell c3) (by simp)).trans c3
        obtain ⟨⟨f0, f1⟩, ⟨f2, f3⟩⟩ := HF.out _ (Keeps.refl _ _)
        clear hal c2 c3
        go_wp2_with fail
        refine (HM.out _).mono ?_
        rintro e w1 ⟨rfl, hk1⟩
        have HK1 := Lib.hid (HK2.out.trans' hk1)
        clear hk1
        cases r
        · go_wp2_with fail
          go_ret
          exact ⟨by rw [HC.out (by first | exact trivial | rfl)]; rfl, HK1.out⟩
        · go_wp2_with fail
          go_roundw
          case rel => exact ⟨j + 1, by go_num, by omega, by show _ = _; rw [HT.out, HZ.out]; rfl, HK1.out⟩
          case measure => simp [intOf]; omega
      · obtain rfl : j = n := by omega
        have h9 := HZ.out
        rw [List.take_of_length_le (by rw [List.length_zip, HA.out.1, HB.out.1]; omega)] at h9
        have H9 : Hid (alikeR a b = true) := h9
        clear h9
        go_wp2_with fail
        go_ret
        exact ⟨by rw [H9.out]; rfl, HKR.out⟩
  · rw [show decide (n = m) = false by simp [hnm]]
    have hni : ¬ (n : Int) = (m : Int) := by omega
    have hnb : ((n : Int) == (m : Int)) = false := by simpa using hni
    have hnc : ((n : Int) != (m : Int)) = true := by simpa using hni
    go_enter Tryd.func40, Tryd.ntmps40
    go_wp2_with fail
    go_ret
    exact ⟨rfl, Keeps.refl _ _⟩

end Go.Proofs.YtjnibkgbcgpigaaDoor
