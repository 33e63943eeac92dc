
/- entry: Order; walked. -/
import Derived.Test.YtmgkejgmkfeccaaGreatDoorW7
import Derived.Test.YtmgkejgmkfeccaaGreatDoorV9
namespace Go.Proofs.YtmgkejgmkfeccaaGreatDoor
open Go.RowKit Go.Shelf
set_option linter.unusedVariables false
set_option linter.unusedSimpArgs false
set_option maxRecDepth 100000

/-- The names for which attributes tell Values, rising. -/
def keysE (e : List Att) : List Txt := ordS ((e.map fun a => smallL a.1).filter fun k => !(gath e k).isEmpty)
/-- Attributes put in order. -/
def ordE (e : List Att) : List Att := (keysE e).map fun k => (k, ordS (gath e k))
def anyLong (e : List Att) : Bool := e.any fun a => longN e.length a.2.length
/-- What Order answers: an entry, an error. -/
def orderP (e : List Att) : List Att × Nat :=
  if e.all (fun a => maybeA a.1 a.2) = true then (if anyLong (ordE e) = true then ([], 3) else (ordE e, 0)) else ([], 2)
theorem gath_in {e : List Att} {k : Txt} (h : gath e k ≠ []) : k ∈ e.map fun a => smallL a.1 := by
  unfold gath at h
  cases hf : e.filter (fun a => smallL a.1 == k) with
  | nil => rw [hf] at h; exact absurd rfl h
  | cons a r =>
    have ha : a ∈ e.filter (fun a => smallL a.1 == k) := by rw [hf]; simp
    obtain ⟨h1, h2⟩ := List.mem_filter.1 ha
    rw [List.mem_map]
    exact ⟨a, h1, by simpa using h2⟩
theorem TabOf.vs {w : World} {b base : Nat} {T : List At7} {e : List Att} (h : TabOf w b base T e) {a : At7} (ha : a ∈ T) : a.vs = gath e a.name := by
  rw [← h.con a.name]
  unfold cont
  rw [aget_some h.tab.rise ha]
  rfl
theorem TabOf.ent {w : World} {b base : Nat} {T : List At7} {e : List Att} (h : TabOf w b base T e) : tEnt T = ordE e := by
  have hr : Rise (T.map At7.name) := by
    unfold Rise
    rw [List.pairwise_map]
    exact h.tab.rise
  have hk : T.map At7.name = keysE e := by
    refine rise_same hr (ordS_is _).1 (fun k => ?_)
    unfold keysE
    rw [(ordS_is _).2, List.mem_filter, List.mem_map]
    constructor
    · rintro ⟨a, ha, rfl⟩
      have h1 := h.vs ha
      have h2 := (h.tab.rows a ha).2
      have h3 := (h.tab.rows a ha).1.len
      have h4 : gath e a.name ≠ [] := fun e' => by rw [← h1] at e'; rw [e'] at h3; simp at h3; omega
      refine ⟨gath_in h4, ?_⟩
      cases hg : gath e a.name with
      | nil => exact absurd hg h4
      | cons x r => rfl
    · rintro ⟨_, hg⟩
      have hg2 : gath e k ≠ [] := fun e' => by rw [e'] at hg; simp at hg
      rw [← h.con k] at hg2
      unfold cont at hg2
      cases ha : aget T k with
      | none => rw [ha] at hg2; exact absurd rfl hg2
      | some a =>
        obtain ⟨h1, h2⟩ := aget_mem ha
        exact ⟨a, h1, h2⟩
  unfold ordE tEnt
  rw [← hk, List.map_map]
  refine List.map_congr_left (fun a ha => ?_)
  show (a.name, ordS a.vs) = (a.name, ordS (gath e a.name))
  rw [h.vs ha]
/-- What a call answers that makes an entry: it, in new memory, and an error. -/
def EnrQ (p : List Att × Nat) (w : World) (e : Ending) (w' : World) : Prop :=
  ∃ A n c, e = .returned (.tuple #[.slice A n c, .int .i64 (p.2 : Int)]) ∧ EntQ p.1 w A n c w' ∧ Keeps [] w w'
theorem EntQ.nil (w w' : World) : EntQ [] w none 0 0 w' := ⟨[], rfl, ⟨rfl, by simp, fun h => by omega⟩, Nat.le_refl _, by omega, by simp⟩
theorem EnrQ.no {n : Nat} {w w' : World} (h : Keeps [] w w') : EnrQ ([], n) w (.returned (.tuple #[.slice none 0 0, .int .i64 (n : Int)])) w' := ⟨none, 0, 0, rfl, EntQ.nil w w', h⟩

theorem any_take7 {α : Type} {xs : List α} {p : α → Bool} {j : Nat} {u : α} (hu : xs[j]? = some u) : (xs.take (j + 1)).any p = ((xs.take j).any p || p u) := by
  rw [List.take_add_one, hu, List.any_append]
  simp
theorem any_yes7 {α : Type} {xs : List α} {p : α → Bool} {j : Nat} {u : α} (hu : xs[j]? = some u) (h : p u = true) : xs.any p = true := by
  rw [List.any_eq_true]
  exact ⟨u, List.mem_of_getElem? hu, h⟩
set_option maxHeartbeats 8000000 in
theorem order_is (A : Option Addr) (n c : Nat) (l : List At7) (w : World) (h : EntIn w A n l) (hf : Few7 1000 l) :
    Calls Tryz.prog 17 #[.slice A n c] w (EnrQ (orderP (ents l)) w) := by
  have HD := Lib.hid h
  have HF := Lib.hid hf
  have hn : n ≤ 1000 := by rw [← h.1]; exact hf.1
  have HEL : Hid ((ents l).length = n) := by show _ = _; rw [ents_len, h.1]
  have HTO := Lib.hid (fun X (hX : Keeps [] w X) => tableof_is A n c l X (EntIn.grow hX h) hf)
  have HGL : Hid (∀ k, (gath (ents l) k).length ≤ 1000000) := fun k => by
    have h1 := gath_len (e := ents l) (m := 1000) (fun a ha => by
      unfold ents at ha
      obtain ⟨x, hx, rfl⟩ := List.mem_map.1 ha
      show x.vs.length ≤ 1000
      rw [(h.2.1 x hx).2.2.2.1]
      exact hf.2 x hx) k
    rw [HEL.out] at h1
    have h2 : n * 1000 ≤ 1000 * 1000 := Nat.mul_le_mul_right _ hn
    omega
  obtain ⟨P, hP⟩ : ∃ P, orderP (ents l) = P := ⟨_, rfl⟩
  rw [hP]
  have HP := Lib.hid hP
  clear h hf hP
  go_enter Tryz.func17, Tryz.ntmps17
  go_wp2_with fail
  refine wp_scope_once 0 rfl ?_
  go_wp2_with fail
  go_loopw [12] (fun i wr => ∃ j : Nat, i = .int .i64 (j : Int) ∧ j ≤ n ∧ Hid (((ents l).take j).all (fun a => maybeA a.1 a.2) = true) ∧ Hid (Keeps [] w wr)) (fun i _ => n - (intOf i).toNat)
  case atStart => exact ⟨0, rfl, Nat.zero_le _, rfl, Keeps.refl _ _⟩
  case round =>
    obtain ⟨j, rfl, hj, HA, HKR⟩ := hrel
    by_cases hlt : j < n
    · obtain ⟨hl, hp, hc9⟩ := EntIn.grow HKR.out HD.out
      obtain ⟨b, o, hA9, hcc⟩ := hc9 (by omega)
      clear hc9
      subst hA9
      obtain ⟨a, hu⟩ : ∃ a, l[j]? = some a := ⟨_, List.getElem?_eq_getElem (by omega)⟩
      obtain ⟨c0, c1⟩ := hcc j a hu
      have hfit := hp a (List.mem_of_getElem? hu)
      have hue := ents_at hu
      have HT := Lib.hid (all_take7 (p := fun a : Att => maybeA a.1 a.2) hue)
      have HC := Lib.hid (fun h => all_cut7 (p := fun a : Att => maybeA a.1 a.2) hue h)
      obtain ⟨nm, aA, an, ac, avs⟩ := a
      obtain ⟨hnm, hnc, hac, hV⟩ := hfit
      dsimp only at c0 c1 hnm hV
      have HMB := Lib.hid (fun X (hX : Keeps [] wr X) => maybe7_is nm aA an ac avs X hnm (StrsIn.grow hX hV) (Nat.le_trans hnc hac))
      obtain ⟨q, hq⟩ : ∃ q, maybeA nm avs = q := ⟨_, rfl⟩
      unfold At7.att at HT HC
      dsimp only at HT HC
      rw [hq] at HT HC HMB
      unfold tv at c0
      have hji : (j : Int) < (n : Int) := by omega
      have HK4 : Hid (Keeps [] wr (wr.alloc (.cells #[.string ⟨nm.toArray⟩, .slice aA an ac] 59))) := (Keeps.refl [] wr).alloc _
      obtain ⟨⟨d0, d1⟩, _⟩ := blk2 (heap_new8 wr (.cells #[.string ⟨nm.toArray⟩, .slice aA an ac] 59))
      obtain ⟨w4, hw4⟩ : ∃ w4, wr.alloc (.cells #[.string ⟨nm.toArray⟩, .slice aA an ac] 59) = w4 := ⟨_, rfl⟩
      rw [hw4] at HK4 d0 d1
      clear hcc hu hue hp hl hq hV hnm hnc hac
      go_wp2_with fail
      refine (HMB.out _ HK4.out).mono ?_
      rintro e w5 ⟨rfl, hk5⟩
      have HK5 := Lib.hid (HKR.out.trans' (HK4.out.trans' hk5))
      clear hk5
      cases q
      · have HPN : Hid (P = ([], 2)) := by
          show _ = _
          rw [← HP.out]
          unfold orderP
          rw [if_neg (by rw [HC.out (by first | exact trivial | rfl)]; decide)]
        go_wp2_with fail
        go_step3
        refine ⟨rfl, ?_⟩
        go_wp2
        rw [Exit.noGoto_ret]
        refine bodyPost_ret (results_tmp2 rfl _ _ _) rfl ?_
        rw [HPN.out]
        exact EnrQ.no HK5.out
      · go_wp2_with fail
        go_roundw
        case rel => exact ⟨j + 1, by go_num, by omega, by show _ = _; rw [HT.out, HA.out]; rfl, HK5.out⟩
        case measure => simp [intOf]; omega
    · obtain rfl : j = n := by omega
      have h9 := HA.out
      rw [List.take_of_length_le (by rw [HEL.out]; exact Nat.le_refl _)] at h9
      have HPY : Hid (P = if anyLong (ordE (ents l)) = true then ([], 3) else (ordE (ents l), 0)) := by
        show _ = _
        rw [← HP.out]
        unfold orderP
        rw [if_pos h9]
      clear h9
      go_wp2_with fail
      refine (HTO.out _ HKR.out).mono ?_
      rintro e w5 ⟨b, T, rfl, ht5, hk5⟩
      have HE5 := Lib.hid ht5.ent
      have htl : T.length ≤ j := by have := ht5.len; rw [HEL.out] at this; exact this
      have HTE := Lib.hid (tentry_is b wr.heap.size T w5 ht5.tab (by omega) (fun a ha => by
        rw [← (ht5.tab.rows a ha).1.len, ht5.vs ha]
        exact HGL.out a.name))
      have HK5 := Lib.hid (HKR.out.trans' hk5)
      obtain ⟨m, hm⟩ : ∃ m, T.length = m := ⟨_, rfl⟩
      rw [HE5.out, hm] at HTE
      rw [hm] at htl
      have HML : Hid (m ≤ 1000) := by show _ ≤ _; omega
      clear ht5 hk5 hm htl
      obtain ⟨E, hE⟩ : ∃ E, ordE (ents l) = E := ⟨_, rfl⟩
      rw [hE] at HPY HTE
      clear hE HE5
      go_wp2_with fail
      refine HTE.out.mono ?_
      rintro e w6 ⟨A6, c6, rfl, ⟨L, hL1, hL2, hL3, hL4, hL5⟩, hk6⟩
      have HK6 := Lib.hid (HK5.out.trans' hk6)
      have HL1 := Lib.hid hL1
      have HL2 := Lib.hid hL2
      have HL3 : Hid (m ≤ c6 ∧ c6 ≤ 9223372036854775807 ∧ ∀ a ∈ L, a.vs.length = a.n) := ⟨hL3, hL4, hL5⟩
      have HELL : Hid (E.length = m) := by show _ = _; rw [← hL1, ents_len, hL2.1]
      clear hL1 hL2 hL3 hL4 hL5 hk6
      go_wp2_with fail
      obtain ⟨V, hV⟩ : ∃ V : World, V = wr := ⟨_, rfl⟩
      subst hV
      have hm1000 := HML.out
      go_loopw [28] (fun i wr => ∃ k : Nat, i = .int .i64 (k : Int) ∧ k ≤ m ∧ Hid ((E.take k).any (fun a => longN m a.2.length) = false) ∧ Hid (Keeps [] w6 wr)) (fun i _ => m - (intOf i).toNat)
      case atStart => exact ⟨0, rfl, Nat.zero_le _, by simp [Hid], Keeps.refl _ _⟩
      case round =>
        obtain ⟨k, rfl, hk, HB, HKS⟩ := hrel
        by_cases hlk : k < m
        · obtain ⟨hl, hp, hc9⟩ := EntIn.grow HKS.out HL2.out
          obtain ⟨b1, o, hA9, hcc⟩ := hc9 (by omega)
          clear hc9
          subst hA9
          obtain ⟨a, hu⟩ : ∃ a, L[k]? = some a := ⟨_, List.getElem?_eq_getElem (by omega)⟩
          obtain ⟨c0, c1⟩ := hcc k a hu
          have hvl := HL3.out.2.2 a (List.mem_of_getElem? hu)
          have hue := ents_at hu
          rw [HL1.out] at hue
          have HT := Lib.hid (any_take7 (p := fun a : Att => longN m a.2.length) hue)
          have HC := Lib.hid (fun h => any_yes7 (p := fun a : Att => longN m a.2.length) hue h)
          obtain ⟨nm, aA, an, ac, avs⟩ := a
          dsimp only at c0 c1 hvl
          unfold At7.att at HT HC
          dsimp only at HT HC
          rw [hvl] at HT HC
          have HIL := Lib.hid (fun X => islong_is m an X)
          obtain ⟨q, hq⟩ : ∃ q, longN m an = q := ⟨_, rfl⟩
          rw [hq] at HT HC HIL
          unfold tv at c0
          have hki : (k : Int) < (m : Int) := by omega
          have HK4 : Hid (Keeps [] wr (wr.alloc (.cells #[.string ⟨nm.toArray⟩, .slice aA an ac] 59))) := (Keeps.refl [] wr).alloc _
          obtain ⟨⟨d0, d1⟩, _⟩ := blk2 (heap_new8 wr (.cells #[.string ⟨nm.toArray⟩, .slice aA an ac] 59))
          obtain ⟨w4, hw4⟩ : ∃ w4, wr.alloc (.cells #[.string ⟨nm.toArray⟩, .slice aA an ac] 59) = w4 := ⟨_, rfl⟩
          rw [hw4] at HK4 d0 d1
          clear hcc hu hue hp hl hq hvl
          go_wp2_with fail
          refine (HIL.out _).mono ?_
          rintro e w7 ⟨rfl, rfl⟩
          cases q
          · go_wp2_with fail
            go_roundw
            case rel => exact ⟨k + 1, by go_num, by omega, by show _ = _; rw [HT.out, HB.out]; rfl, HKS.out.trans' HK4.out⟩
            case measure => simp [intOf]; omega
          · have HPN : Hid (P = ([], 3)) := by
              show _ = _
              rw [HPY.out, if_pos]
              unfold anyLong
              rw [HELL.out]
              exact HC.out (by first | exact trivial | rfl)
            go_wp2_with fail
            go_step3
            refine ⟨rfl, ?_⟩
            go_wp2
            rw [Exit.noGoto_ret]
            refine bodyPost_ret (results_tmp2 rfl _ _ _) rfl ?_
            rw [HPN.out]
            exact EnrQ.no (HK6.out.trans' (HKS.out.trans' HK4.out))
        · obtain rfl : k = m := by omega
          have h9 := HB.out
          rw [List.take_of_length_le (by rw [HELL.out]; exact Nat.le_refl _)] at h9
          have HPE : Hid (P = (E, 0)) := by
            show _ = _
            rw [HPY.out, if_neg]
            unfold anyLong
            rw [HELL.out, h9]
            decide
          clear h9
          go_wp2_with fail
          simp only [Exit.jump]
          refine bodyPost_ret (results_tmp2 rfl _ _ _) rfl ?_
          rw [HPE.out]
          exact ⟨A6, k, c6, rfl, ⟨L, HL1.out, EntIn.grow HKS.out HL2.out, HL3.out⟩, HK6.out.trans' HKS.out⟩
end Go.Proofs.YtmgkejgmkfeccaaGreatDoor
