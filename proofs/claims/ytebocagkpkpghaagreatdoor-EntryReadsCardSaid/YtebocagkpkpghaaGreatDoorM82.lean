/- Texts of one proof, laid together: W18 W19 W20. -/
import Derived.Test.YtebocagkpkpghaaGreatDoorM81
import Derived.Test.YtebocagkpkpghaaGreatDoorM78
/- entry: isMod; walked. -/
namespace Go.Proofs.YtebocagkpkpghaaGreatDoor
open Go.RowKit Go.Shelf
set_option linter.unusedVariables false
set_option linter.unusedSimpArgs false
set_option maxRecDepth 100000

/-- May a change be? -/
def modOk (K : Int) (nm : Txt) (vs : List Txt) : Bool := if K < 1 ∨ 3 < K ∨ 16 < vs.length then false else maybeA nm vs && (decide (K ≠ 1) || decide (0 < vs.length))
set_option maxHeartbeats 4000000 in
theorem ismod_is (K : Int) (nm : Txt) (aA : Option Addr) (an ac : Nat) (vs : List Txt) (w : World) (hnm : nm.length ≤ 9223372036854775807) (h : StrsIn w aA an vs) (hn : an ≤ 9223372036854775807) :
    Calls Tryz.prog 32 #[.agg #[.int .i64 K, tv nm, .slice aA an ac]] w fun e w' => e = .returned (.bool (modOk K nm vs)) ∧ Keeps [] w w' := by
  unfold tv
  have HK0 : Hid (Keeps [] w (w.alloc (.cells #[.int .i64 K, .string ⟨nm.toArray⟩, .slice aA an ac] 49))) := (Keeps.refl [] w).alloc _
  have hb0 := heap_new8 w (.cells #[.int .i64 K, .string ⟨nm.toArray⟩, .slice aA an ac] 49)
  obtain ⟨W0, hW0⟩ : ∃ W0, w.alloc (.cells #[.int .i64 K, .string ⟨nm.toArray⟩, .slice aA an ac] 49) = W0 := ⟨_, rfl⟩
  rw [hW0] at HK0 hb0
  have HMB := Lib.hid (maybe7_is nm aA an ac vs W0 hnm (StrsIn.grow HK0.out h) hn)
  obtain ⟨r, hr⟩ : ∃ r, modOk K nm vs = r := ⟨_, rfl⟩
  rw [hr]
  unfold modOk at hr
  rw [h.1] at hr
  obtain ⟨g, hg⟩ : ∃ g, w.heap.size = g := ⟨_, rfl⟩
  rw [hg] at hb0
  have HF := Lib.hid (fun X (hX : Keeps [] W0 X) => cells3 (blk_keep hb0 hX (by simp)))
  obtain ⟨d0, d1, d2⟩ := HF.out W0 (Keeps.refl _ _)
  obtain ⟨q, hq⟩ : ∃ q, maybeA nm vs = q := ⟨_, rfl⟩
  rw [hq] at HMB hr
  clear h hq hb0
  by_cases h1 : K < 1
  · obtain rfl : r = false := by rw [← hr, if_pos (.inl h1)]
    clear hr
    go_enter Tryz.func32, Tryz.ntmps32
    go_wp2_with fail
    go_ret
    exact ⟨rfl, HK0.out⟩
  · by_cases h3 : 3 < K
    · obtain rfl : r = false := by rw [← hr, if_pos (.inr (.inl h3))]
      clear hr
      go_enter Tryz.func32, Tryz.ntmps32
      go_wp2_with fail
      go_ret
      exact ⟨rfl, HK0.out⟩
    · by_cases h16 : 16 < an
      · obtain rfl : r = false := by rw [← hr, if_pos (.inr (.inr h16))]
        have h16' : (16 : Int) < (an : Int) := by omega
        clear hr
        go_enter Tryz.func32, Tryz.ntmps32
        go_wp2_with fail
        go_ret
        exact ⟨rfl, HK0.out⟩
      · rw [if_neg (by omega)] at hr
        have h16' : ¬ (16 : Int) < (an : Int) := by omega
        go_enter Tryz.func32, Tryz.ntmps32
        go_wp2_with fail
        refine HMB.out.mono ?_
        rintro e w1 ⟨rfl, hk1⟩
        obtain ⟨e0, e1, e2⟩ := HF.out w1 hk1
        have HK1 := Lib.hid (HK0.out.trans' hk1)
        clear d0 d1 d2 hk1
        cases q
        · obtain rfl : r = false := by rw [← hr]; rfl
          clear hr
          go_wp2_with fail
          go_ret
          exact ⟨rfl, HK1.out⟩
        · rw [Bool.true_and] at hr
          by_cases hK : K = 1
          · subst hK
            by_cases hn0 : 0 < an
            · obtain rfl : r = true := by rw [← hr]; simp [hn0]
              have hn1 : (0 : Int) < (an : Int) := by omega
              clear hr
              go_wp2_with fail
              go_ret
              exact ⟨rfl, HK1.out⟩
            · obtain rfl : r = false := by rw [← hr]; simp [hn0]
              have hn1 : ¬ (0 : Int) < (an : Int) := by omega
              clear hr
              go_wp2_with fail
              go_ret
              exact ⟨rfl, HK1.out⟩
          · obtain rfl : r = true := by rw [← hr]; simp [hK]
            have hKb : (K == 1) = false := by simpa using hK
            clear hr
            go_wp2_with fail
            go_ret
            exact ⟨rfl, HK1.out⟩
end Go.Proofs.YtebocagkpkpghaaGreatDoor
/- entry: changes in memory, and what Do makes, as words. -/
namespace Go.Proofs.YtebocagkpkpghaaGreatDoor
open Go.RowKit Go.Maps Go.ChangeMaps Go.MapKept
set_option linter.unusedVariables false
set_option linter.unusedSimpArgs false
set_option maxRecDepth 100000

/-- A change in memory: its kind, and its name and Values. -/
structure Mod7 where
  k : Int
  a : At7
abbrev Chg7 := Int × Att
def Mod7.mod (m : Mod7) : Chg7 := (m.k, m.a.att)
def modsOf (l : List Mod7) : List Chg7 := l.map Mod7.mod
theorem mods_at {l : List Mod7} {i : Nat} {m : Mod7} (h : l[i]? = some m) : (modsOf l)[i]? = some m.mod := by simp [modsOf, h]
def ModIn (w : World) (A : Option Addr) (n : Nat) (l : List Mod7) : Prop :=
  l.length = n ∧ (∀ m ∈ l, m.a.fits w) ∧ (0 < n → ∃ b o, A = some ⟨b, o, none⟩ ∧ ∀ (i : Nat) (m : Mod7), l[i]? = some m → w.cell? ⟨b, o + i * 3, none⟩ = some (.int .i64 m.k) ∧ w.cell? ⟨b, o + i * 3 + 1, none⟩ = some (tv m.a.name) ∧ w.cell? ⟨b, o + i * 3 + 2, none⟩ = some (.slice m.a.A m.a.n m.a.c))
theorem ModIn.grow {w w' : World} {A : Option Addr} {n : Nat} {l : List Mod7} (hk : Keeps [] w w') (h : ModIn w A n l) : ModIn w' A n l := by
  obtain ⟨h1, h2, h3⟩ := h
  refine ⟨h1, fun a ha => (h2 a ha).grow hk, fun hp => ?_⟩
  obtain ⟨b, o, e, hc⟩ := h3 hp
  refine ⟨b, o, e, fun i p hi => ?_⟩
  obtain ⟨c1, c2, c3⟩ := hc i p hi
  exact ⟨(hk.cell (lt_of_cell c1) (by simp)).trans c1, (hk.cell (lt_of_cell c2) (by simp)).trans c2, (hk.cell (lt_of_cell c3) (by simp)).trans c3⟩
def FewM (m : Nat) (l : List Mod7) : Prop := l.length ≤ m ∧ ∀ x ∈ l, x.a.n ≤ m

/-- The table of attributes. -/
def tabE (e : List Att) : List Att := (keysE e).map fun k => (k, gath e k)
theorem TabOf.ents {w : World} {b base : Nat} {T : List At7} {e : List Att} (h : TabOf w b base T e) : ents T = tabE e := by
  have h1 := h.ent
  unfold tEnt ordE at h1
  have h2 : T.map At7.name = keysE e := by
    have h3 := congrArg (List.map Prod.fst) h1
    rw [List.map_map, List.map_map] at h3
    have e1 : (Prod.fst ∘ fun a : At7 => (a.name, ordS a.vs)) = At7.name := rfl
    have e2 : (Prod.fst ∘ fun k : Txt => (k, ordS (gath e k))) = id := rfl
    rw [e1, e2, List.map_id] at h3
    exact h3
  unfold tabE
  rw [← h2, List.map_map]
  unfold Go.Proofs.YtebocagkpkpghaaGreatDoor.ents
  refine List.map_congr_left (fun a ha => ?_)
  show (a.name, a.vs) = (a.name, gath e a.name)
  rw [h.vs ha]
def outE (L : List Att) : List Att := L.map fun a => (a.1, ordS a.2)
theorem tEnt_out (T : List At7) : tEnt T = outE (ents T) := by
  unfold tEnt outE ents
  rw [List.map_map]
  rfl
def doGo : List Att → List Chg7 → List Att × Nat
  | L, [] => (outE L, 0)
  | L, m :: r => if (changeT L m.1.toNat (smallL m.2.1) m.2.2).2 ≠ 0 then ([], (changeT L m.1.toNat (smallL m.2.1) m.2.2).2) else doGo (changeT L m.1.toNat (smallL m.2.1) m.2.2).1 r
def doP (e : List Att) (l : List Chg7) : List Att × Nat :=
  if entOk e = false then ([], 2) else if l.all (fun m => modOk m.1 m.2.1 m.2.2) = false then ([], 2) else doGo (tabE e) l
/-- A table that is small. -/
def SmallT (L : List Att) : Prop := L.length ≤ 10000 ∧ ∀ a ∈ L, a.2.length ≤ 100000
theorem ains2_mem {x a : Att} : ∀ {T : List Att}, a ∈ ains2 x T ↔ a = x ∨ a ∈ T
  | [] => by simp [ains2]
  | y :: r => by
    unfold ains2
    split
    · simp
    · simp only [List.mem_cons, ains2_mem (T := r)]
      constructor
      · rintro (h | h | h)
        · exact .inr (.inl h)
        · exact .inl h
        · exact .inr (.inr h)
      · rintro (h | h | h)
        · exact .inr (.inl h)
        · exact .inl h
        · exact .inr (.inr h)
theorem SmallT.change {L : List Att} {k : Nat} {z : Txt} {told : List Txt} (h : SmallT L) (h0 : (changeT L k z told).2 = 0) : SmallT (changeT L k z told).1 := by
  unfold changeT at h0 ⊢
  by_cases hd : (deedP k (cont2 L z) told).2 ≠ 0
  · rw [if_pos hd] at h0
    exact absurd h0 hd
  · rw [if_neg hd] at h0 ⊢
    dsimp only at h0 ⊢
    obtain ⟨d, hdd⟩ : ∃ d, (deedP k (cont2 L z) told).1 = d := ⟨_, rfl⟩
    rw [hdd] at h0 ⊢
    obtain ⟨L', hL'⟩ : ∃ L', (if d.length = 0 then adel2 L z else aput2 L (z, d)) = L' := ⟨_, rfl⟩
    rw [hL'] at h0 ⊢
    have hl : longN L'.length d.length = false := by
      cases hq : longN L'.length d.length with
      | false => rfl
      | true => rw [hq] at h0; simp at h0
    unfold longN at hl
    simp at hl
    refine ⟨by omega, fun a ha => ?_⟩
    rw [← hL'] at ha
    split at ha
    · exact h.2 a (List.mem_filter.1 ha).1
    · unfold aput2 at ha
      rcases ains2_mem.1 ha with rfl | ha
      · show d.length ≤ _
        omega
      · exact h.2 a (List.mem_filter.1 ha).1
theorem SmallT.of {w : World} {b base : Nat} {T : List At7} (h : TabI w b base T) (hs : SmallT (ents T)) : T.length ≤ 10000 ∧ ∀ a ∈ T, a.n ≤ 100000 := by
  refine ⟨by rw [← ents_len]; exact hs.1, fun a ha => ?_⟩
  rw [← (h.rows a ha).1.len]
  exact hs.2 a.att (by unfold ents; exact List.mem_map_of_mem ha)
theorem mod_kind {m : Chg7} (h : modOk m.1 m.2.1 m.2.2 = true) : ∃ k : Nat, m.1 = (k : Int) ∧ 1 ≤ k ∧ k ≤ 3 := by
  unfold modOk at h
  split at h
  · cases h
  · exact ⟨m.1.toNat, by omega, by omega, by omega⟩
theorem doGo_next {L : List Att} {l : List Chg7} {j : Nat} {m : Chg7} (h : l[j]? = some m) : doGo L (l.drop j) = if (changeT L m.1.toNat (smallL m.2.1) m.2.2).2 ≠ 0 then ([], (changeT L m.1.toNat (smallL m.2.1) m.2.2).2) else doGo (changeT L m.1.toNat (smallL m.2.1) m.2.2).1 (l.drop (j + 1)) := by
  obtain ⟨hlt, rfl⟩ := List.getElem?_eq_some_iff.1 h
  rw [List.drop_eq_getElem_cons hlt]
  rfl
end Go.Proofs.YtebocagkpkpghaaGreatDoor
/- entry: Do; walked. -/
namespace Go.Proofs.YtebocagkpkpghaaGreatDoor
open Go.RowKit Go.Shelf
set_option linter.unusedVariables false
set_option linter.unusedSimpArgs false
set_option maxRecDepth 100000

set_option maxHeartbeats 8000000 in
theorem do_is (A : Option Addr) (n c : Nat) (l : List At7) (MA : Option Addr) (mn mc : Nat) (ms : List Mod7) (w : World) (h : EntIn w A n l) (hf : Few7 1000 l) (h2 : ModIn w MA mn ms) (hf2 : FewM 1000 ms) :
    Calls Tryz.prog 12 #[.slice A n c, .slice MA mn mc] w (EnrQ (doP (ents l) (modsOf ms)) w) := by
  have HM := Lib.hid h2
  have HMF := Lib.hid hf2
  have hmn : mn ≤ 1000 := by rw [← h2.1]; exact hf2.1
  have hn : n ≤ 1000 := by rw [← h.1]; exact hf.1
  have HML : Hid ((modsOf ms).length = mn) := by show _ = _; unfold modsOf; rw [List.length_map, h2.1]
  have HCK := Lib.hid (check7_is A n c l w h ⟨by have := hf.1; omega, fun a ha => by have := hf.2 a ha; omega⟩)
  have HTO := Lib.hid (fun X (hX : Keeps [] w X) => tableof_is A n c l X (EntIn.grow hX h) hf)
  have HGL : Hid (∀ k, (gath (ents l) k).length ≤ 1000000) := fun k => by
    have h1 := gath_len (e := ents l) (m := 1000) (fun a ha => by
      unfold ents at ha
      obtain ⟨x, hx, rfl⟩ := List.mem_map.1 ha
      show x.vs.length ≤ 1000
      rw [(h.2.1 x hx).2.2.2.1]
      exact hf.2 x hx) k
    rw [ents_len, h.1] at h1
    have h2 : n * 1000 ≤ 1000 * 1000 := Nat.mul_le_mul_right _ hn
    omega
  have HEL : Hid ((ents l).length = n) := by show _ = _; rw [ents_len, h.1]
  have HEV : Hid (entOk (ents l) = true → ∀ k, (gath (ents l) k).length ≤ 100000) := fun he k => by
    have h0 : ∀ a ∈ ents l, a.2.length ≤ 16 := fun a ha => by
      unfold entOk at he
      rw [Bool.and_eq_true, List.all_eq_true] at he
      have h9 := he.1 a ha
      unfold oneOk longN at h9
      simp at h9
      omega
    have h1 := gath_len (e := ents l) (m := 16) h0 k
    rw [ents_len, h.1] at h1
    have h2 : n * 16 ≤ 1000 * 16 := Nat.mul_le_mul_right _ hn
    omega
  obtain ⟨P, hP⟩ : ∃ P, doP (ents l) (modsOf ms) = P := ⟨_, rfl⟩
  rw [hP]
  unfold doP at hP
  have HP := Lib.hid hP
  obtain ⟨q, hq⟩ : ∃ q, entOk (ents l) = q := ⟨_, rfl⟩
  rw [hq] at HCK HP HEV
  clear h hf h2 hf2 hP hq
  cases q
  · have HPN : Hid (P = ([], 2)) := by show _ = _; rw [← HP.out, if_pos rfl]
    rw [if_neg (by decide)] at HCK
    go_enter Tryz.func12, Tryz.ntmps12
    go_wp2_with fail
    refine wp_scope_once 0 rfl ?_
    go_wp2_with fail
    refine HCK.out.mono ?_
    rintro e w1 ⟨rfl, hk1⟩
    have HK1 := Lib.hid hk1
    clear hk1
    go_wp2_with fail
    go_step3
    refine ⟨rfl, ?_⟩
    go_wp2
    rw [Exit.noGoto_ret]
    refine bodyPost_ret (results_tmp2 rfl _ _ _) rfl ?_
    rw [HPN.out]
    exact EnrQ.no HK1.out
  · have HP2 : Hid (P = if (modsOf ms).all (fun m => modOk m.1 m.2.1 m.2.2) = false then ([], 2) else doGo (tabE (ents l)) (modsOf ms)) := by show _ = _; rw [← HP.out, if_neg (by decide)]
    rw [if_pos rfl] at HCK
    clear HP
    go_enter Tryz.func12, Tryz.ntmps12
    go_wp2_with fail
    refine wp_scope_once 0 rfl ?_
    go_wp2_with fail
    refine HCK.out.mono ?_
    rintro e w1 ⟨rfl, hk1⟩
    have HK1 := Lib.hid hk1
    clear hk1 HCK
    go_wp2_with fail
    go_loopw [17] (fun i wr => ∃ j : Nat, i = .int .i64 (j : Int) ∧ j ≤ mn ∧ Hid (((modsOf ms).take j).all (fun m => modOk m.1 m.2.1 m.2.2) = true) ∧ Hid (Keeps [] w wr)) (fun i _ => mn - (intOf i).toNat)
    case atStart => exact ⟨0, rfl, Nat.zero_le _, rfl, HK1.out⟩
    case round =>
      obtain ⟨j, rfl, hj, HA, HKR⟩ := hrel
      by_cases hlt : j < mn
      · obtain ⟨hl, hp, hc9⟩ := ModIn.grow HKR.out HM.out
        obtain ⟨b, o, hA9, hcc⟩ := hc9 (by omega)
        clear hc9
        subst hA9
        obtain ⟨m, hu⟩ : ∃ m, ms[j]? = some m := ⟨_, List.getElem?_eq_getElem (by omega)⟩
        obtain ⟨c0, c1, c2⟩ := hcc j m hu
        have hfit := hp m (List.mem_of_getElem? hu)
        have hue := mods_at hu
        have HT := Lib.hid (all_take7 (p := fun m : Chg7 => modOk m.1 m.2.1 m.2.2) hue)
        have HC := Lib.hid (fun h => all_cut7 (p := fun m : Chg7 => modOk m.1 m.2.1 m.2.2) hue h)
        obtain ⟨K, nm, aA, an, ac, avs⟩ := m
        obtain ⟨hnm, hnc, hac, hV⟩ := hfit
        dsimp only at c0 c1 c2 hnm hV hnc hac
        have HMB := Lib.hid (fun X (hX : Keeps [] wr X) => ismod_is K nm aA an ac avs X hnm (StrsIn.grow hX hV) (Nat.le_trans hnc hac))
        obtain ⟨q, hq⟩ : ∃ q, modOk K nm avs = q := ⟨_, rfl⟩
        unfold Mod7.mod At7.att at HT HC
        dsimp only at HT HC
        rw [hq] at HT HC HMB
        unfold tv at c1 HMB
        have hji : (j : Int) < (mn : Int) := by omega
        have HK4 : Hid (Keeps [] wr (wr.alloc (.cells #[.int .i64 K, .string ⟨nm.toArray⟩, .slice aA an ac] 49))) := (Keeps.refl [] wr).alloc _
        obtain ⟨d0, d1, d2⟩ := cells3 (heap_new8 wr (.cells #[.int .i64 K, .string ⟨nm.toArray⟩, .slice aA an ac] 49))
        obtain ⟨w4, hw4⟩ : ∃ w4, wr.alloc (.cells #[.int .i64 K, .string ⟨nm.toArray⟩, .slice aA an ac] 49) = w4 := ⟨_, rfl⟩
        rw [hw4] at HK4 d0 d1 d2
        clear hcc hu hue hp hl hq hV hnm hnc hac
        go_wp2_with fail
        refine (HMB.out _ HK4.out).mono ?_
        rintro e w5 ⟨rfl, hk5⟩
        have HK5 := Lib.hid (HKR.out.trans' (HK4.out.trans' hk5))
        clear hk5
        cases q
        · have HPN : Hid (P = ([], 2)) := by
            show _ = _
            rw [HP2.out, if_pos (HC.out (by first | exact trivial | rfl))]
          go_wp2_with fail
          go_step3
          refine ⟨rfl, ?_⟩
          go_wp2
          rw [Exit.noGoto_ret]
          refine bodyPost_ret (results_tmp2 rfl _ _ _) rfl ?_
          rw [HPN.out]
          exact EnrQ.no HK5.out
        · go_wp2_with fail
          go_roundw
          case rel => exact ⟨j + 1, by go_num, by omega, by show _ = _; rw [HT.out, HA.out]; rfl, HK5.out⟩
          case measure => simp [intOf]; omega
      · obtain rfl : j = mn := by omega
        have h9 := HA.out
        rw [List.take_of_length_le (by rw [HML.out]; exact Nat.le_refl _)] at h9
        have HPY : Hid (P = doGo (tabE (ents l)) (modsOf ms)) := by
          show _ = _
          rw [HP2.out, if_neg (by rw [h9]; decide)]
        have HAL := Lib.hid h9
        clear h9
        go_wp2_with fail
        refine (HTO.out _ HKR.out).mono ?_
        rintro e w5 ⟨b, T0, rfl, ht5, hk5⟩
        have HE5 := Lib.hid ht5.ents
        have HT5 := Lib.hid ht5.tab
        have HS5 : Hid (SmallT (ents T0)) := by
          refine ⟨by rw [ents_len]; have := ht5.len; rw [HEL.out] at this; omega, fun a ha => ?_⟩
          rw [HE5.out] at ha
          unfold tabE at ha
          obtain ⟨k, _, rfl⟩ := List.mem_map.1 ha
          exact HEV.out (by first | exact trivial | rfl) k
        have HK5 := Lib.hid (HKR.out.trans' hk5)
        have HKW := Lib.hid hk5
        have HG0 : Hid (doGo (ents T0) ((modsOf ms).drop 0) = P) := by show _ = _; rw [HPY.out, HE5.out]; rfl
        have HGE : Hid (wr.heap.size ≤ b) := ht5.tab.ge
        clear ht5 hk5
        obtain ⟨V, hV⟩ : ∃ V : World, V = wr := ⟨_, rfl⟩
        subst hV
        go_wp2_with fail
        go_loopw [29] (fun i wq => ∃ (k : Nat) (T : List At7), i = .int .i64 (k : Int) ∧ k ≤ j ∧ Hid (TabI wq b V.heap.size T) ∧ Hid (SmallT (ents T)) ∧ Hid (doGo (ents T) ((modsOf ms).drop k) = P) ∧ Hid (Keeps [] V wq)) (fun i _ => j - (intOf i).toNat)
        case atStart => exact ⟨0, T0, rfl, Nat.zero_le _, HT5.out, HS5.out, HG0.out, HKW.out⟩
        case round =>
          obtain ⟨k, T, rfl, hk, HT, HS, HG, HKQ⟩ := hrel
          by_cases hlk : k < j
          · obtain ⟨hl, hp, hc9⟩ := ModIn.grow (HKR.out.trans' HKQ.out) HM.out
            obtain ⟨b1, o, hA9, hcc⟩ := hc9 (by omega)
            clear hc9
            subst hA9
            obtain ⟨m, hu⟩ : ∃ m, ms[k]? = some m := ⟨_, List.getElem?_eq_getElem (by omega)⟩
            obtain ⟨c0, c1, c2⟩ := hcc k m hu
            have hfit := hp m (List.mem_of_getElem? hu)
            have hmf := HMF.out.2 m (List.mem_of_getElem? hu)
            have hue := mods_at hu
            have hok : modOk m.mod.1 m.mod.2.1 m.mod.2.2 = true := List.all_eq_true.1 HAL.out m.mod (List.mem_of_getElem? hue)
            obtain ⟨kd, hkd, hk1, hk3⟩ := mod_kind hok
            have hgn := doGo_next (L := ents T) hue
            rw [HG.out] at hgn
            obtain ⟨K, nm, aA, an, ac, avs⟩ := m
            obtain ⟨hnm, hnc, hac, hV⟩ := hfit
            unfold Mod7.mod At7.att at hkd hgn
            dsimp only at c0 c1 c2 hnm hV hnc hac hmf hkd hgn
            subst hkd
            rw [show ((kd : Int)).toNat = kd from by omega] at hgn
            obtain ⟨hs1, hs2⟩ := SmallT.of HT.out HS.out
            have HK4 : Hid (Keeps [] wr (wr.alloc (.cells #[.int .i64 (kd : Int), .string ⟨nm.toArray⟩, .slice aA an ac] 49))) := (Keeps.refl [] wr).alloc _
            have HCH := Lib.hid (change_is kd b V.heap.size an ac aA nm avs T (wr.alloc (.cells #[.int .i64 (kd : Int), .string ⟨nm.toArray⟩, .slice aA an ac] 49)) ⟨hk1, hk3⟩ (HT.out.keep HK4.out (by simp)) (Nat.le_trans HKQ.out.size HK4.out.size) hnm (StrsIn.grow HK4.out hV) (by omega) hs1 hs2)
            unfold ChgQ at HCH
            have HSC := Lib.hid (fun h0 => HS.out.change (k := kd) (z := smallL nm) (told := avs) h0)
            obtain ⟨D, hD⟩ : ∃ D, changeT (ents T) kd (smallL nm) avs = D := ⟨_, rfl⟩
            rw [hD] at HCH HSC hgn
            have HGN := Lib.hid hgn
            obtain ⟨dv, dn⟩ := D
            dsimp only at HCH HSC HGN
            unfold tv at c1 HCH
            have hki : (k : Int) < (j : Int) := by omega
            obtain ⟨d0, d1, d2⟩ := cells3 (heap_new8 wr (.cells #[.int .i64 (kd : Int), .string ⟨nm.toArray⟩, .slice aA an ac] 49))
            obtain ⟨w4, hw4⟩ : ∃ w4, wr.alloc (.cells #[.int .i64 (kd : Int), .string ⟨nm.toArray⟩, .slice aA an ac] 49) = w4 := ⟨_, rfl⟩
            rw [hw4] at HK4 HCH d0 d1 d2
            clear hcc hu hue hp hl hok hgn hV hnm hnc hac hs1 hs2 hD hmf
            go_wp2_with fail
            refine HCH.out.mono ?_
            rintro e w6 ⟨T', rfl, ht6, he6, hk6⟩
            have HT6 := Lib.hid ht6
            have HE6 := Lib.hid he6
            have HK6 : Hid (Keeps [] V w6) := (HKQ.out.trans' HK4.out).trans hk6 (fun x hx => .inr (by rw [List.mem_singleton.1 hx]; exact HGE.out))
            clear ht6 he6 hk6
            by_cases h0 : dn = 0
            · subst h0
              have HSS : Hid (SmallT (ents T')) := by show SmallT _; rw [HE6.out]; exact HSC.out rfl
              have HGG : Hid (doGo (ents T') ((modsOf ms).drop (k + 1)) = P) := by show _ = _; rw [HGN.out, if_neg (by simp), HE6.out]
              clear HGN HSC HCH
              go_wp2_with fail
              go_roundw
              case rel => exact ⟨k + 1, T', by go_num, by omega, HT6.out, HSS.out, HGG.out, HK6.out⟩
              case measure => simp [intOf]; omega
            · have HPN : Hid (P = ([], dn)) := by show _ = _; rw [HGN.out, if_pos h0]
              have hd0 : ¬ (dn : Int) = 0 := by omega
              clear HGN HSC HCH
              go_wp2_with fail
              go_step3
              refine ⟨rfl, ?_⟩
              go_wp2
              rw [Exit.noGoto_ret]
              refine bodyPost_ret (results_tmp2 rfl _ _ _) rfl ?_
              rw [HPN.out]
              exact EnrQ.no (HKR.out.trans' HK6.out)
          · obtain rfl : k = j := by omega
            have h9 := HG.out
            rw [List.drop_of_length_le (by rw [HML.out]; exact Nat.le_refl _)] at h9
            have HPE : Hid (P = (tEnt T, 0)) := by show _ = _; rw [← h9, tEnt_out]; rfl
            obtain ⟨hs1, hs2⟩ := SmallT.of HT.out HS.out
            have HTE := Lib.hid (tentry_is b V.heap.size T wr HT.out (by omega) (fun a ha => by have := hs2 a ha; omega))
            obtain ⟨E, hE⟩ : ∃ E, tEnt T = E := ⟨_, rfl⟩
            obtain ⟨tl, htl⟩ : ∃ tl, T.length = tl := ⟨_, rfl⟩
            rw [hE] at HPE HTE
            rw [htl] at HTE
            clear h9 hs1 hs2 hE htl
            go_wp2_with fail
            refine HTE.out.mono ?_
            rintro e w6 ⟨A6, c6, rfl, he6, hk6⟩
            have HE6 := Lib.hid he6
            have HK6 := Lib.hid (HKR.out.trans' (HKQ.out.trans' hk6))
            clear he6 hk6
            go_wp2_with fail
            simp only [Exit.jump]
            refine bodyPost_ret (results_tmp2 rfl _ _ _) rfl ?_
            rw [HPE.out]
            exact ⟨A6, tl, c6, rfl, HE6.out, HK6.out⟩
end Go.Proofs.YtebocagkpkpghaaGreatDoor
