/- Texts of one proof, laid together: W24 W25. -/
import Derived.Test.YtebocagkpkpghaaGreatDoorM83
/- entry: Same; walked. -/
namespace Go.Proofs.YtebocagkpkpghaaGreatDoor
open Go.RowKit Go.Shelf
set_option linter.unusedVariables false
set_option linter.unusedSimpArgs false
set_option maxRecDepth 100000

set_option maxHeartbeats 4000000 in
theorem samef_is (x y : At7) (w : World) (hx : x.fits w) (hy : y.fits w) (hn : x.n ≤ 100000) :
    Calls Tryz.prog 63 #[.agg #[tv x.name, .slice x.A x.n x.c], .agg #[tv y.name, .slice y.A y.n y.c]] w fun e w' => e = .returned (.bool (x.att == y.att)) ∧ Keeps [] w w' := by
  obtain ⟨s, aA, an, ac, avs⟩ := x
  obtain ⟨t, bA, bn, bc, bvs⟩ := y
  obtain ⟨hs, hnc, hc, hV⟩ := hx
  obtain ⟨ht, hmc, hd, hU⟩ := hy
  dsimp only at hs hnc hc hV hn ht hmc hd hU
  unfold At7.att tv
  dsimp only
  have HK1 : Hid (Keeps [] w (w.alloc (.cells #[.string ⟨s.toArray⟩, .slice aA an ac] 59))) := (Keeps.refl [] w).alloc _
  have hb1 := heap_new8 w (.cells #[.string ⟨s.toArray⟩, .slice aA an ac] 59)
  obtain ⟨W1, hW1⟩ : ∃ W1, w.alloc (.cells #[.string ⟨s.toArray⟩, .slice aA an ac] 59) = W1 := ⟨_, rfl⟩
  rw [hW1] at HK1 hb1
  have HK2 : Hid (Keeps [] W1 (W1.alloc (.cells #[.string ⟨t.toArray⟩, .slice bA bn bc] 59))) := (Keeps.refl [] W1).alloc _
  have hb2 := heap_new8 W1 (.cells #[.string ⟨t.toArray⟩, .slice bA bn bc] 59)
  obtain ⟨W2, hW2⟩ : ∃ W2, W1.alloc (.cells #[.string ⟨t.toArray⟩, .slice bA bn bc] 59) = W2 := ⟨_, rfl⟩
  rw [hW2] at HK2 hb2
  have hb3 := blk_keep hb1 HK2.out (by simp)
  have hz : W1.heap.size = w.heap.size + 1 := by rw [← hW1]; simp
  obtain ⟨⟨d0, d1⟩, _⟩ := blk2 hb3
  obtain ⟨⟨e0, e1⟩, _⟩ := blk2 hb2
  rw [hz] at e0 e1
  have HKK : Hid (Keeps [] w W2) := HK1.out.trans' HK2.out
  have HEQ := Lib.hid (equals_is aA bA an bn ac bc avs bvs W2 (StrsIn.grow HKK.out hV) (StrsIn.grow HKK.out hU) (by omega))
  obtain ⟨r, hr⟩ : ∃ r, (s == t) = r := ⟨_, rfl⟩
  obtain ⟨q, hq⟩ : ∃ q, (avs == bvs) = q := ⟨_, rfl⟩
  rw [hq] at HEQ
  have HRES : Hid (((s, avs) == (t, bvs)) = (r && q)) := by
    show _ = _
    rw [← hr, ← hq]
    rfl
  rw [HRES.out]
  clear hV hU hb1 hb2 hb3 hq
  cases r
  · go_enter Tryz.func63, Tryz.ntmps63
    go_wp2_with fail
    go_ret
    exact ⟨rfl, HKK.out⟩
  · have heq : s = t := by simpa using hr
    subst heq
    clear hr
    go_enter Tryz.func63, Tryz.ntmps63
    go_wp2_with fail
    refine HEQ.out.mono ?_
    rintro e w3 ⟨rfl, hk3⟩
    have HK3 := Lib.hid (HKK.out.trans' hk3)
    clear hk3
    go_wp2_with fail
    go_ret
    exact ⟨by rw [Bool.true_and]; rfl, HK3.out⟩

theorem ents_take_eq {l m : List Att} {j : Nat} {x y : Att} (hx : l[j]? = some x) (hy : m[j]? = some y) (h : l.take j = m.take j) (he : (x == y) = true) : l.take (j + 1) = m.take (j + 1) := by
  rw [List.take_add_one, List.take_add_one, hx, hy, h]
  have : x = y := by simpa using he
  rw [this]
theorem ents_ne {l m : List Att} {j : Nat} {x y : Att} (hx : l[j]? = some x) (hy : m[j]? = some y) (he : (x == y) = false) : (l == m) = false := by
  rw [beq_eq_false_iff_ne]
  intro h
  rw [h, hy] at hx
  injection hx with hx
  rw [hx] at he
  simp at he

set_option maxHeartbeats 4000000 in
theorem equalfunc7_is (A B : Option Addr) (n c m d : Nat) (l k : List At7) (w : World) (h : EntIn w A n l) (h2 : EntIn w B m k) (hf : Few7 100000 l) :
    Calls Tryz.prog 62 #[.slice A n c, .slice B m d, .func (.func 63) #[] #[]] w fun e w' => e = .returned (.bool (ents l == ents k)) ∧ Keeps [] w w' := by
  have HE1 := Lib.hid h
  have HE2 := Lib.hid h2
  have HF := Lib.hid hf
  have hn : n ≤ 100000 := by rw [← h.1]; exact hf.1
  have HL1 : Hid ((ents l).length = n) := by show _ = _; rw [ents_len, h.1]
  have HL2 : Hid ((ents k).length = m) := by show _ = _; rw [ents_len, h2.1]
  obtain ⟨r, hr⟩ : ∃ r, (ents l == ents k) = r := ⟨_, rfl⟩
  rw [hr]
  have HR := Lib.hid hr
  clear h h2 hf hr
  by_cases hnm : n = m
  · subst hnm
    have hz : ∀ X : Int, (X == X) = true := by simp
    go_enter Tryz.func62, Tryz.ntmps62
    go_wp2_with fail
    clear hz
    go_loopw [17] (fun i wr => ∃ j : Nat, i = .int .i64 (j : Int) ∧ j ≤ n ∧ Hid ((ents l).take j = (ents k).take j) ∧ Hid (Keeps [] w wr)) (fun i _ => n - (intOf i).toNat)
    case atStart => exact ⟨0, rfl, Nat.zero_le _, by simp [Hid], Keeps.refl _ _⟩
    case round =>
      obtain ⟨j, rfl, hj, HA, HKR⟩ := hrel
      by_cases hlt : j < n
      · obtain ⟨hl1, hp1, hc1⟩ := EntIn.grow HKR.out HE1.out
        obtain ⟨b1, o1, hA1, hcc1⟩ := hc1 (by omega)
        obtain ⟨hl2, hp2, hc2⟩ := EntIn.grow HKR.out HE2.out
        obtain ⟨b2, o2, hA2, hcc2⟩ := hc2 (by omega)
        clear hc1 hc2
        subst hA1 hA2
        obtain ⟨x, hu⟩ : ∃ a, l[j]? = some a := ⟨_, List.getElem?_eq_getElem (by omega)⟩
        obtain ⟨y, hv⟩ : ∃ a, k[j]? = some a := ⟨_, List.getElem?_eq_getElem (by omega)⟩
        obtain ⟨c0, c1⟩ := hcc1 j x hu
        obtain ⟨d0, d1⟩ := hcc2 j y hv
        have hfx := hp1 x (List.mem_of_getElem? hu)
        have hfy := hp2 y (List.mem_of_getElem? hv)
        have hxn := HF.out.2 x (List.mem_of_getElem? hu)
        have HSF := Lib.hid (fun X (hX : Keeps [] wr X) => samef_is x y X (hfx.grow hX) (hfy.grow hX) hxn)
        have HTE := Lib.hid (ents_take_eq (ents_at hu) (ents_at hv) HA.out)
        have HNE := Lib.hid (ents_ne (ents_at hu) (ents_at hv))
        obtain ⟨q, hq⟩ : ∃ q, (x.att == y.att) = q := ⟨_, rfl⟩
        rw [hq] at HSF HTE HNE
        obtain ⟨s, aA, an, ac, avs⟩ := x
        obtain ⟨t, bA, bn, bc, bvs⟩ := y
        dsimp only at c0 c1 d0 d1 HSF
        unfold tv at c0 d0 HSF
        have hji : (j : Int) < (n : Int) := by omega
        have hj0 : (0 : Int) ≤ (j : Int) := by omega
        have HK1 : Hid (Keeps [] wr (wr.alloc (.cells #[.string ⟨s.toArray⟩, .slice aA an ac] 59))) := (Keeps.refl [] wr).alloc _
        have hb1 := heap_new8 wr (.cells #[.string ⟨s.toArray⟩, .slice aA an ac] 59)
        obtain ⟨W1, hW1⟩ : ∃ W1, wr.alloc (.cells #[.string ⟨s.toArray⟩, .slice aA an ac] 59) = W1 := ⟨_, rfl⟩
        rw [hW1] at HK1 hb1
        have d0' := (HK1.out.cell (lt_of_cell d0) (by simp)).trans d0
        have d1' := (HK1.out.cell (lt_of_cell d1) (by simp)).trans d1
        have HK2 : Hid (Keeps [] W1 (W1.alloc (.cells #[.string ⟨t.toArray⟩, .slice bA bn bc] 59))) := (Keeps.refl [] W1).alloc _
        have hb2 := heap_new8 W1 (.cells #[.string ⟨t.toArray⟩, .slice bA bn bc] 59)
        obtain ⟨W2, hW2⟩ : ∃ W2, W1.alloc (.cells #[.string ⟨t.toArray⟩, .slice bA bn bc] 59) = W2 := ⟨_, rfl⟩
        rw [hW2] at HK2 hb2
        obtain ⟨⟨f0, f1⟩, _⟩ := blk2 (blk_keep hb1 HK2.out (by simp))
        obtain ⟨⟨g0, g1⟩, _⟩ := blk2 hb2
        obtain ⟨⟨p0, p1⟩, _⟩ := blk2 hb1
        have hz : W1.heap.size = wr.heap.size + 1 := by rw [← hW1]; simp
        rw [hz] at g0 g1
        have HKK : Hid (Keeps [] wr W2) := HK1.out.trans' HK2.out
        have HSG := Lib.hid (HSF.out W2 HKK.out)
        clear hcc1 hcc2 hu hv hp1 hp2 hl1 hl2 hfx hfy hxn hq hb1 hb2 HSF d0 d1
        go_wp2_with fail
        refine HSG.out.mono ?_
        rintro e w5 ⟨rfl, hk5⟩
        have HK5 := Lib.hid (HKR.out.trans' (HKK.out.trans' hk5))
        clear hk5
        cases q
        · have HRF : Hid (r = false) := by show _ = _; rw [← HR.out]; exact HNE.out (by first | exact trivial | rfl)
          go_wp2_with fail
          go_ret
          rw [HRF.out]
          exact ⟨rfl, HK5.out⟩
        · go_wp2_with fail
          go_roundw
          case rel => exact ⟨j + 1, by go_num, by omega, HTE.out (by first | exact trivial | rfl), HK5.out⟩
          case measure => simp [intOf]; omega
      · obtain rfl : j = n := by omega
        have h9 := HA.out
        rw [List.take_of_length_le (by rw [HL1.out]; exact Nat.le_refl _), List.take_of_length_le (by rw [HL2.out]; exact Nat.le_refl _)] at h9
        have HRT : Hid (r = true) := by show _ = _; rw [← HR.out, h9]; simp
        clear h9
        go_wp2_with fail
        go_ret
        rw [HRT.out]
        exact ⟨rfl, HKR.out⟩
  · have hne : ¬ (n : Int) = (m : Int) := by omega
    have hneb : ((n : Int) == (m : Int)) = false := by simp; omega
    have HRF : Hid (r = false) := by
      show _ = _
      rw [← HR.out, beq_eq_false_iff_ne]
      intro h9
      rw [h9, HL2.out] at HL1
      exact hnm HL1.out.symm
    go_enter Tryz.func62, Tryz.ntmps62
    go_wp2_with fail
    go_ret
    rw [HRF.out]
    exact ⟨rfl, Keeps.refl _ _⟩

theorem same7_is (A B : Option Addr) (n c m d : Nat) (l k : List At7) (w : World) (h : EntIn w A n l) (h2 : EntIn w B m k) (hf : Few7 100000 l) :
    Calls Tryz.prog 30 #[.slice A n c, .slice B m d] w fun e w' => e = .returned (.bool (ents l == ents k)) ∧ Keeps [] w w' := by
  have HEF := Lib.hid (equalfunc7_is A B n c m d l k w h h2 hf)
  clear h h2 hf
  obtain ⟨r, hr⟩ : ∃ r, (ents l == ents k) = r := ⟨_, rfl⟩
  rw [hr] at HEF ⊢
  clear hr
  go_enter Tryz.func30, Tryz.ntmps30
  go_wp2_with fail
  refine HEF.out.mono ?_
  rintro e w1 ⟨rfl, hk1⟩
  have HK1 := Lib.hid hk1
  clear hk1
  go_wp2_with fail
  go_ret
  exact ⟨rfl, HK1.out⟩
end Go.Proofs.YtebocagkpkpghaaGreatDoor
/- entry: Copy; walked. -/
namespace Go.Proofs.YtebocagkpkpghaaGreatDoor
open Go.RowKit Go.Shelf
set_option linter.unusedVariables false
set_option linter.unusedSimpArgs false
set_option maxRecDepth 100000

theorem atCells_app (l m : List At7) : atCells (l ++ m) = atCells l ++ atCells m := by simp [atCells]
theorem EntIn.src {w : World} {A : Option Addr} {n : Nat} {l : List At7} (h : EntIn w A n l) : Src w A n (atCells l) := by
  refine ⟨fun hA => ?_, fun ad hA j u hu => ?_⟩
  · rcases Nat.eq_zero_or_pos n with h0 | h0
    · exact h0
    · obtain ⟨b, o, e, _⟩ := h.2.2 h0
      rw [hA] at e
      cases e
  · have hj : j < l.length * 2 := by
      rw [← atCells_len]
      exact (List.getElem?_eq_some_iff.1 hu).1
    have hp : 0 < n := by rw [← h.1]; omega
    obtain ⟨b, o, e, hc⟩ := h.2.2 hp
    rw [hA] at e
    injection e with e
    obtain ⟨x, hx⟩ : ∃ x, l[j / 2]? = some x := ⟨_, List.getElem?_eq_getElem (by omega)⟩
    obtain ⟨c0, c1⟩ := hc (j / 2) x hx
    obtain ⟨d0, d1⟩ := atCells_at l (j / 2) x hx
    rw [e, add_at]
    rcases Nat.mod_two_eq_zero_or_one j with h2 | h2
    · rw [show j / 2 * 2 = j by omega] at c0 d0
      rw [d0] at hu
      injection hu with hu
      rw [← hu]
      exact c0
    · rw [Nat.add_assoc, show j / 2 * 2 + 1 = j by omega] at c1
      rw [show j / 2 * 2 + 1 = j by omega] at d1
      rw [d1] at hu
      injection hu with hu
      rw [← hu]
      exact c1
theorem atCells_one (l : List At7) : ∀ u ∈ atCells l, u.oneCell' = true := by
  intro u hu
  unfold atCells at hu
  obtain ⟨a, _, ha⟩ := List.mem_flatMap.1 hu
  simp at ha
  rcases ha with rfl | rfl <;> rfl
set_option maxHeartbeats 4000000 in
theorem clonee_is (A : Option Addr) (n c : Nat) (l : List At7) (w : World) (h : EntIn w A n l) (hn : n ≤ 100000) :
    Calls Tryz.prog 61 #[.slice A n c] w fun e w' => ∃ A' c', e = .returned (.slice A' n c') ∧ w'.ownsRow w.heap.size 59 2 (.slice A' n c') n (atCells l) ∧ Keeps [] w w' := by
  obtain ⟨iu, hiu, hzu0, hzu1, hzu2⟩ := info_parts attr_info7
  have HS := Lib.hid h.src
  have HSR : Hid (∀ o, Src (w.alloc o) A n (atCells l)) := fun o => (EntIn.grow ((Keeps.refl [] w).alloc o) h).src
  have HLL : Hid (l.length = n) := h.1
  have HL : Hid ((atCells l).length = n * 2) := by show _ = _; rw [atCells_len, h.1]
  have hq := fun (W : World) (a : Option Addr) (n c : Nat) => Lib.run_eql_slice_nil (P := Tryz.prog) W 23 59 a n c 0 0 Tryz.underlying23
  clear h
  rcases A with _ | ad
  · have hz : n = 0 := HS.out.1 rfl
    subst hz
    have hd : l = [] := List.length_eq_zero_iff.1 HLL.out
    subst hd
    go_enter Tryz.func61, Tryz.ntmps61
    go_wp2_with fail
    go_ret
    exact ⟨_, _, rfl, World.ownsRow_nil _ _ _ _, Keeps.refl _ _⟩
  · go_enter Tryz.func61, Tryz.ntmps61
    go_wp2_with (at_builtin; refine wpList_append_opt rfl (.tmp 5) (.tmp 6) 23 rfl w.heap.size 59 iu _ 2 40 Tryz.underlying23 hiu hzu0 hzu1 hzu2 rfl (by decide) (.slice (some ⟨w.heap.size, 0, none⟩) 0 0) 0 [] rfl (World.ownsRow_made w #[] 0 (Nat.le_refl _) (by unfold maxLen; omega) rfl) (some ad) n c (atCells l) rfl HL.out (HSR.out _) (atCells_one l) (by unfold maxLen; omega) (by omega) (by simp) ?_; intro v1 w1 ho1 hg1 hs1; obtain ⟨A1, c1, hv1⟩ := own_slice ho1; subst hv1; have HG1 := Lib.hid (Keeps.trans ((Keeps.refl [] w).alloc (.cells #[] 59)) (Keeps.of_grown (bs := [w.heap.size]) hg1 (fun x hx => .inl (by simp [Value.ownBlock] at hx; simp [hx]))) (fun y hy => .inr (by rw [List.mem_singleton.1 hy]; exact Nat.le_refl _))); have HO1 : Hid (w1.ownsRow w.heap.size 59 2 (.slice A1 (0 + n) c1) (0 + n) (atCells l)) := (by have h9 := ho1; rw [List.nil_append] at h9; exact h9); rw [Nat.zero_add] at HO1 ⊢; clear ho1 hg1 hs1)
    go_ret
    exact ⟨_, _, rfl, HO1.out, HG1.out⟩

/-- What a round of Copy's loop finds: so many have Values of their own. -/
structure CopS (w wr : World) (A : Option Addr) (n c : Nat) (l N : List At7) (j : Nat) : Prop where
  row : wr.ownsRow w.heap.size 59 2 (.slice A n c) n (atCells (N ++ l.drop j))
  len : N.length = j
  ents : ents N = ents (l.take j)
  rows : ∀ a ∈ N, RowOk wr w.heap.size a
  keep : Keeps [] w wr
theorem set_val (N r : List At7) (x : At7) (v : At7) (hv : v.name = x.name) : (atCells (N ++ x :: r)).set (N.length * 2 + 1) v.val = atCells (N ++ v :: r) := by
  rw [atCells_app, atCells_app, List.set_append_right _ _ (by rw [atCells_len]; omega), atCells_len]
  rw [show N.length * 2 + 1 - N.length * 2 = 1 by omega]
  show _ = atCells N ++ (tv v.name :: v.val :: atCells r)
  rw [hv]
  rfl
theorem set_other_row {w : World} {base g off : Nat} {a : At7} {cs : Array Value} (h : RowOk w base a) (hg : w.heap[g]? = some (.cells cs 59 (0, 0))) (u : Value) : RowOk (w.setCell ⟨g, off, none⟩ u) base a := by
  refine h.keep (bs := [g]) ((Keeps.refl [g] w).setCell (p := ⟨g, off, none⟩) (.inl (by simp)) u) (fun b hb hm => ?_)
  obtain ⟨cs', h4⟩ := own_cells h.row b hb
  rw [List.mem_singleton.1 hm, hg] at h4
  injection h4 with h4
  injection h4 with _ h4 _
  exact absurd h4 (by decide)
def CopQ (l : List At7) (w : World) (e : Ending) (w' : World) : Prop :=
  ∃ A n c L, e = .returned (.slice A n c) ∧ ents L = ents l ∧ L.length = n ∧ w'.ownsRow w.heap.size 59 2 (.slice A n c) n (atCells L) ∧ (∀ a ∈ L, RowOk w' w.heap.size a) ∧ Keeps [] w w'

set_option maxHeartbeats 4000000 in
theorem copy7_is (A : Option Addr) (n c : Nat) (l : List At7) (w : World) (h : EntIn w A n l) (hf : Few7 100000 l) :
    Calls Tryz.prog 29 #[.slice A n c] w (CopQ l w) := by
  have HE := Lib.hid h
  have HF := Lib.hid hf
  have hn : n ≤ 100000 := by rw [← h.1]; exact hf.1
  have HCE := Lib.hid (clonee_is A n c l w h hn)
  have HLL := Lib.hid h.1
  clear h hf
  go_enter Tryz.func29, Tryz.ntmps29
  go_wp2_with fail
  refine HCE.out.mono ?_
  rintro e w1 ⟨A1, c1, rfl, ho1, hk1⟩
  have HS1 : Hid (CopS w w1 A1 n c1 l [] 0) := ⟨ho1, rfl, rfl, by simp, hk1⟩
  clear ho1 hk1
  go_wp2_with fail
  go_loopw [9] (fun i wr => ∃ (j : Nat) (N : List At7), i = .int .i64 (j : Int) ∧ j ≤ n ∧ Hid (CopS w wr A1 n c1 l N j)) (fun i _ => n - (intOf i).toNat)
  case atStart => exact ⟨0, [], rfl, Nat.zero_le _, HS1.out⟩
  case round =>
    obtain ⟨j, N, rfl, hj, HS⟩ := hrel
    by_cases hlt : j < n
    · obtain ⟨x, hu⟩ : ∃ a, l[j]? = some a := ⟨_, List.getElem?_eq_getElem (by rw [HLL.out]; omega)⟩
      have hfx := (EntIn.grow HS.out.keep HE.out).2.1 x (List.mem_of_getElem? hu)
      have hxn := HF.out.2 x (List.mem_of_getElem? hu)
      have hdr : l.drop j = x :: l.drop (j + 1) := by
        obtain ⟨h9, h8⟩ := List.getElem?_eq_some_iff.1 hu
        rw [List.drop_eq_getElem_cons h9, h8]
      obtain ⟨g, cs, hA, hgb, hgh⟩ : ∃ g cs, A1 = some ⟨g, 0, none⟩ ∧ w.heap.size ≤ g ∧ wr.heap[g]? = some (.cells cs 59 (0, 0)) := by
        rcases HS.out.row.2 with ⟨_, h2⟩ | ⟨g, cap, cur, hA, hg, hh, _⟩
        · omega
        · injection hA with e1 _ _
          exact ⟨g, cur, e1, hg, hh⟩
      subst hA
      have hcell : ∀ X, Keeps [] wr X → X.cell? ⟨g, j * 2 + 1, none⟩ = some (.slice x.A x.n x.c) ∧ X.frozen? ⟨g, j * 2 + 1, none⟩ = false := fun X hX => by
        have h9 := own_keep HS.out.row hX (by simp)
        refine ⟨?_, h9.frozenAt _⟩
        rw [h9.cellAt _ (by omega), atCells_app, hdr]
        rw [List.getElem?_append_right (by rw [atCells_len, HS.out.len]; omega), atCells_len, HS.out.len, show j * 2 + 1 - j * 2 = 1 by omega]
        rfl
      have HCC := Lib.hid hcell
      have HGH := Lib.hid hgh
      have HDR := Lib.hid hdr
      have HUE := Lib.hid hu
      obtain ⟨⟨c0, f0⟩⟩ : Nonempty (wr.cell? ⟨g, j * 2 + 1, none⟩ = some (.slice x.A x.n x.c) ∧ wr.frozen? ⟨g, j * 2 + 1, none⟩ = false) := ⟨hcell wr (Keeps.refl _ _)⟩
      have HCL := Lib.hid (clones_is x.A x.n x.c x.vs wr hfx.2.2.2 (by omega))
      have HNM : Hid (x.name.length ≤ 9223372036854775807 ∧ x.vs.length = x.n ∧ ∀ s ∈ x.vs, s.length ≤ 9223372036854775807) := ⟨hfx.1, hfx.2.2.2.1, hfx.2.2.2.2.1⟩
      have hji : (j : Int) < (n : Int) := by omega
      have hj0 : (0 : Int) ≤ (j : Int) := by omega
      obtain ⟨nm, aA, an, ac, avs⟩ := x
      dsimp only at c0 HCC HCL HNM
      clear hcell hu hdr hfx hxn hgh
      go_wp2_with fail
      refine HCL.out.mono ?_
      rintro e w2 ⟨A2, c2, rfl, ho2, hk2⟩
      obtain ⟨c2', f2'⟩ := HCC.out w2 hk2
      have HK2 := Lib.hid hk2
      have HO2 := Lib.hid ho2
      have HNX : Hid (CopS w (w2.setCell ⟨g, j * 2 + 1, none⟩ (.slice A2 an c2)) (some ⟨g, 0, none⟩) n c1 l (N ++ [⟨nm, A2, an, c2, avs⟩]) (j + 1)) := by
        have hrow := (own_keep HS.out.row hk2 (by simp))
        obtain ⟨cs2, hg2⟩ := own_cells2 hrow g rfl
        have hst := (hrow.stored (j * 2 + 1) (.slice A2 an c2)).1
        have hse := set_val N (l.drop (j + 1)) ⟨nm, aA, an, ac, avs⟩ ⟨nm, A2, an, c2, avs⟩ rfl
        rw [HS.out.len] at hse
        rw [HDR.out] at hst
        have hval : (At7.val ⟨nm, A2, an, c2, avs⟩) = .slice A2 an c2 := rfl
        rw [hval] at hse
        rw [hse] at hst
        refine ⟨by rw [List.append_assoc]; exact hst, by rw [List.length_append, HS.out.len]; rfl, ?_, fun a ha => ?_, ?_⟩
        · have h9 := HS.out.ents
          unfold Go.Proofs.YtebocagkpkpghaaGreatDoor.ents at h9 ⊢
          rw [List.map_append, h9, List.take_add_one, HUE.out, List.map_append]
          rfl
        · rcases List.mem_append.1 ha with ha | ha
          · exact set_other_row ((HS.out.rows a ha).keep hk2 (by simp)) hg2 _
          · simp at ha
            subst ha
            exact set_other_row ⟨own_base7 ho2 HS.out.keep.size, HNM.out.2.1, HNM.out.2.2, HNM.out.1⟩ hg2 _
        · exact (HS.out.keep.trans' hk2).setCell (p := ⟨g, j * 2 + 1, none⟩) (.inr hgb) _
      clear ho2 hk2 c0 f0
      go_wp2_with fail
      go_roundw
      case rel => exact ⟨j + 1, _, by go_num, by omega, HNX.out⟩
      case measure => simp [intOf]; omega
    · obtain rfl : j = n := by omega
      have h9 := HS.out
      have hrow := h9.row
      rw [List.drop_of_length_le (by rw [HLL.out]; exact Nat.le_refl _), List.append_nil] at hrow
      have hen := h9.ents
      rw [List.take_of_length_le (by rw [HLL.out]; exact Nat.le_refl _)] at hen
      have HR : Hid (CopQ l w (.returned (.slice A1 j c1)) wr) := ⟨A1, j, c1, N, rfl, hen, h9.len, hrow, h9.rows, h9.keep⟩
      clear h9 hrow hen
      go_wp2_with fail
      go_ret
      exact HR.out
end Go.Proofs.YtebocagkpkpghaaGreatDoor
