/- Texts of one proof, laid together: X19 X23. -/
import Derived.Test.YtfjlcfbomlfpfaaGreatDoorM92
import Derived.Test.YtfjlcfbomlfpfaaGreatDoorM83
import Derived.Test.YtfjlcfbomlfpfaaGreatDoorM97
import Derived.Test.YtfjlcfbomlfpfaaGreatDoorM95
import Derived.Test.YtfjlcfbomlfpfaaGreatDoorM87
/- entry: an entry behind its difference to another one, as words. -/
namespace Go.Proofs.YtfjlcfbomlfpfaaGreatDoor
open Go.RowKit Go.Shelf
set_option linter.unusedVariables false
set_option linter.unusedSimpArgs false

theorem good_len {E M : List Att} (h : Good7 E) (hs : ∀ k, cont2 E k ≠ [] → cont2 M k ≠ []) : E.length ≤ M.length := by
  have h1 : (E.map Prod.fst).Nodup := by
    have : Rise (E.map Prod.fst) := by unfold Rise; rw [List.pairwise_map]; exact h.1
    exact rise_nodup this
  have h2 := List.Nodup.length_le_of_subset (l₂ := M.map Prod.fst) h1 (fun x hx => by
    obtain ⟨a, ha, rfl⟩ := List.mem_map.1 hx
    have h3 := cont2_of h.1 ha
    have h4 := hs a.1 (by rw [h3]; exact h.2 a ha)
    exact List.mem_map.2 ⟨_, cont2_ne h4, rfl⟩)
  simpa using h2
theorem entOk_mix {a b x E : List Att} (ha : entOk a = true) (hb : entOk b = true) (hx : entOk x = true) (hg : Good7 E) (h : ∀ k, cont2 E k = [] ∨ cont2 E k = cont2 a k ∨ cont2 E k = cont2 b k) (hl : ∀ k, cont2 E k ≠ [] → cont2 x k ≠ []) : entOk E = true := by
  obtain ⟨_, _, a3⟩ := entOk_parts ha
  obtain ⟨_, _, b3⟩ := entOk_parts hb
  obtain ⟨_, x2, _⟩ := entOk_parts hx
  have hn := good_len (M := x) hg hl
  refine entOk_of hg.1 (by omega) (fun c hc => ?_)
  have h1 := cont2_of hg.1 hc
  have h2 := hg.2 c hc
  rw [← h1] at h2
  rcases h c.1 with h3 | h3 | h3
  · exact absurd h3 h2
  · have h4 := a3 _ (cont2_ne (by rw [← h3]; exact h2))
    rw [← h3, h1] at h4
    exact h4
  · have h4 := b3 _ (cont2_ne (by rw [← h3]; exact h2))
    rw [← h3, h1] at h4
    exact h4
theorem do_one {E now : List Att} {z : Txt} {n : List Txt} {m : Chg7} (h : entOk E = true) (hm : modOk m.1 m.2.1 m.2.2 = true) (hz : smallL m.2.1 = z) (hn : nowR m.1.toNat (cont2 E z) m.2.2 = (n, 0)) (hl : n.length ≤ 16) (ho : entOk (setR E z n) = true) : doP E [m] = (setR E z n, 0) := by
  rw [← rdo_eq]
  unfold rdoP
  rw [if_neg (by rw [h]; decide), if_neg (by simp [hm])]
  have h2 := (entOk_parts ho).2.1
  have h1 : oneR E m.1.toNat (smallL m.2.1) m.2.2 = (setR E z n, 0) := by
    rw [hz]
    unfold oneR
    rw [hn]
    dsimp only
    rw [if_neg (by decide), if_neg (by simp only [Bool.or_eq_true, decide_eq_true_eq]; omega)]
  unfold rdoGo
  rw [h1]
  rfl
section
variable {a b : List Att}
def difL (a b : List Att) : List Chg7 := diffsP a b (ordS (namesT a ++ namesT b))
theorem names_cont {e : List Att} {k : Txt} (h : k ∈ namesT e) (hg : Good7 e) : cont2 e k ≠ [] := by
  unfold namesT at h
  obtain ⟨c, hc, rfl⟩ := List.mem_map.1 h
  rw [cont2_of hg.1 hc]
  exact hg.2 c hc
theorem small_key {e : List Att} {k : Txt} (h : entOk e = true) (hk : cont2 e k ≠ []) : smallL k = k ∧ nameT k = true := by
  obtain ⟨_, _, h3⟩ := entOk_parts h
  obtain ⟨_, _, h4, h5, _⟩ := h3 _ (cont2_ne hk)
  dsimp only at h4 h5
  unfold maybeA at h5
  rw [Bool.and_eq_true] at h5
  exact ⟨h4.symm, h5.2⟩
theorem difL_in (ha : entOk a = true) (hb : entOk b = true) {m : Chg7} (h : m ∈ difL a b) : cont2 a m.2.1 ≠ cont2 b m.2.1 ∧ m.2.2 = cont2 b m.2.1 ∧ m.1 = (kindP (cont2 a m.2.1).length (cont2 b m.2.1).length : Nat) ∧ smallL m.2.1 = m.2.1 ∧ nameT m.2.1 = true := by
  unfold difL diffsP at h
  obtain ⟨k, hk, rfl⟩ := List.mem_map.1 h
  obtain ⟨h1, h2⟩ := List.mem_filter.1 hk
  rw [(ordS_is _).2, List.mem_append] at h1
  have hs : smallL k = k ∧ nameT k = true := by
    rcases h1 with h1 | h1
    · exact small_key ha (names_cont h1 (entOk_good ha).1)
    · exact small_key hb (names_cont h1 (entOk_good hb).1)
  unfold diffK
  dsimp only
  rw [hs.1] at h2 ⊢
  exact ⟨by simpa using h2, rfl, rfl, rfl, hs.2⟩
theorem difL_all (ha : entOk a = true) (hb : entOk b = true) {k : Txt} (h : cont2 a k ≠ cont2 b k) : ∃ m ∈ difL a b, m.2.1 = k := by
  have hk : k ∈ namesT a ++ namesT b ∧ smallL k = k := by
    by_cases h1 : cont2 a k = []
    · have h2 : cont2 b k ≠ [] := fun e => h (by rw [h1, e])
      exact ⟨List.mem_append.2 (.inr (List.mem_map.2 ⟨_, cont2_ne h2, rfl⟩)), (small_key hb h2).1⟩
    · exact ⟨List.mem_append.2 (.inl (List.mem_map.2 ⟨_, cont2_ne h1, rfl⟩)), (small_key ha h1).1⟩
  refine ⟨diffK a b k, ?_, rfl⟩
  unfold difL diffsP
  refine List.mem_map.2 ⟨k, List.mem_filter.2 ⟨((ordS_is _).2 k).2 hk.1, ?_⟩, rfl⟩
  rw [hk.2]
  simpa using h
theorem difL_nodup : ((difL a b).map fun m => m.2.1).Nodup := by
  unfold difL diffsP
  rw [List.map_map]
  have : ((fun m : Chg7 => m.2.1) ∘ diffK a b) = id := rfl
  rw [this, List.map_id]
  exact (rise_nodup (ordS_is _).1).filter _
theorem difL_once {i : Nat} {m : Chg7} (h : (difL a b)[i]? = some m) : ∀ x ∈ (difL a b).take i, x.2.1 ≠ m.2.1 := by
  intro x hx he
  obtain ⟨j, hj, rfl⟩ := List.mem_take_iff_getElem.1 hx
  obtain ⟨hi, rfl⟩ := List.getElem?_eq_some_iff.1 h
  have h1 := List.pairwise_iff_getElem.1 (difL_nodup (a := a) (b := b)) j i (by simp; omega) (by simpa using hi) (by omega)
  simp only [List.getElem_map] at h1
  exact h1 he
theorem difL_same {x y : Chg7} (hx : x ∈ difL a b) (hy : y ∈ difL a b) (h : x.2.1 = y.2.1) : x = y := by
  unfold difL diffsP at hx hy
  obtain ⟨k, _, rfl⟩ := List.mem_map.1 hx
  obtain ⟨k2, _, rfl⟩ := List.mem_map.1 hy
  have : k = k2 := h
  rw [this]
theorem difL_nil (ha : entOk a = true) (hb : entOk b = true) : (difL a b = []) ↔ a = b := by
  constructor
  · intro h
    refine (entOk_good ha).1.ext (entOk_good hb).1 (fun k => ?_)
    by_cases hk : cont2 a k = cont2 b k
    · exact hk
    · obtain ⟨m, hm, _⟩ := difL_all ha hb hk
      rw [h] at hm
      cases hm
  · rintro rfl
    cases h : difL a a with
    | nil => rfl
    | cons m r => exact absurd rfl (difL_in ha ha (m := m) (by rw [h]; simp)).1
/-- Is a name deleted, set by some changes? -/
def delN (L : List Chg7) (k : Txt) : Prop := ∃ m ∈ L, m.1 = 2 ∧ m.2.1 = k
def setN (L : List Chg7) (k : Txt) : Prop := ∃ m ∈ L, m.1 ≠ 2 ∧ m.2.1 = k
/-- What the entry has behind some changes of the first turn, of the second. -/
def Inv0 (a b : List Att) (i : Nat) (E : List Att) : Prop := entOk E = true ∧ ∀ k, (delN ((difL a b).take i) k → cont2 E k = []) ∧ (¬ delN ((difL a b).take i) k → cont2 E k = cont2 a k)
def Inv1 (a b : List Att) (i : Nat) (E : List Att) : Prop := entOk E = true ∧ ∀ k, (delN (difL a b) k → cont2 E k = []) ∧ (¬ delN (difL a b) k → setN ((difL a b).take i) k → cont2 E k = cont2 b k) ∧ (¬ delN (difL a b) k → ¬ setN ((difL a b).take i) k → cont2 E k = cont2 a k)
theorem take_in {l : List Chg7} {i : Nat} {m x : Chg7} (h : l[i]? = some m) : x ∈ l.take (i + 1) ↔ x ∈ l.take i ∨ x = m := by
  rw [List.take_add_one, h]
  simp
theorem kind_del (ha : entOk a = true) (hb : entOk b = true) {m : Chg7} (h : m ∈ difL a b) : m.1 = 2 ↔ cont2 b m.2.1 = [] := by
  obtain ⟨h1, _, h3, _⟩ := difL_in ha hb h
  rw [h3]
  unfold kindP
  by_cases hc : cont2 b m.2.1 = []
  · rw [hc]; simp
  · have : ¬ (cont2 b m.2.1).length = 0 := fun e => hc (List.length_eq_zero_iff.1 e)
    rw [if_neg this]
    split
    · simp [hc]
    · simp [hc]
theorem inv0_start (ha : entOk a = true) : Inv0 a b 0 a := ⟨ha, fun k => ⟨fun h => by obtain ⟨m, hm, _⟩ := h; simp at hm, fun _ => rfl⟩⟩
theorem inv0_skip {i : Nat} {E : List Att} {m : Chg7} (h : Inv0 a b i E) (hm : (difL a b)[i]? = some m) (hk : m.1 ≠ 2) : Inv0 a b (i + 1) E := by
  refine ⟨h.1, fun k => ?_⟩
  have : delN ((difL a b).take (i + 1)) k ↔ delN ((difL a b).take i) k := by
    unfold delN
    constructor
    · rintro ⟨x, hx, h1, h2⟩
      rcases (take_in hm).1 hx with hx | rfl
      · exact ⟨x, hx, h1, h2⟩
      · exact absurd h1 hk
    · rintro ⟨x, hx, h1⟩
      exact ⟨x, (take_in hm).2 (.inl hx), h1⟩
  rw [this]
  exact h.2 k
theorem inv0_step (ha : entOk a = true) (hb : entOk b = true) {i : Nat} {E : List Att} {m : Chg7} (h : Inv0 a b i E) (hm : (difL a b)[i]? = some m) (hk : m.1 = 2) : ∃ E', doP E [m] = (E', 0) ∧ Inv0 a b (i + 1) E' := by
  have hin := List.mem_of_getElem? hm
  obtain ⟨h1, h2, h3, h4, h5⟩ := difL_in ha hb hin
  have hcb := (kind_del ha hb hin).1 hk
  have hca : cont2 a m.2.1 ≠ [] := fun e => h1 (by rw [e, hcb])
  have hnd : ¬ delN ((difL a b).take i) m.2.1 := by
    rintro ⟨x, hx, _, hx2⟩
    exact difL_once hm x hx hx2
  have hce := (h.2 m.2.1).2 hnd
  obtain ⟨hg, _⟩ := entOk_good h.1
  rw [hcb] at h2
  have hsc := fun k => setR_cont m.2.1 [] hg k
  have hI : ∀ k, (delN ((difL a b).take (i + 1)) k → cont2 (setR E m.2.1 []) k = []) ∧ (¬ delN ((difL a b).take (i + 1)) k → cont2 (setR E m.2.1 []) k = cont2 a k) := by
    intro k
    rw [hsc]
    by_cases hkk : k = m.2.1
    · rw [if_pos hkk]
      exact ⟨fun _ => rfl, fun hn => absurd ⟨m, (take_in hm).2 (.inr rfl), hk, hkk.symm⟩ hn⟩
    · rw [if_neg hkk]
      have : delN ((difL a b).take (i + 1)) k ↔ delN ((difL a b).take i) k := by
        unfold delN
        constructor
        · rintro ⟨x, hx, g1, g2⟩
          rcases (take_in hm).1 hx with hx | rfl
          · exact ⟨x, hx, g1, g2⟩
          · exact absurd g2.symm hkk
        · rintro ⟨x, hx, g1⟩
          exact ⟨x, (take_in hm).2 (.inl hx), g1⟩
      rw [this]
      exact h.2 k
  have hok : entOk (setR E m.2.1 []) = true := by
    refine entOk_mix ha hb ha (setR_good _ _ hg) (fun k => ?_) (fun k hk2 => ?_)
    · by_cases hd : delN ((difL a b).take (i + 1)) k
      · exact .inl ((hI k).1 hd)
      · exact .inr (.inl ((hI k).2 hd))
    · by_cases hd : delN ((difL a b).take (i + 1)) k
      · exact absurd ((hI k).1 hd) hk2
      · rw [← (hI k).2 hd]; exact hk2
  refine ⟨setR E m.2.1 [], do_one (now := []) h.1 ?_ h4 ?_ (by simp) hok, hok, hI⟩
  · rw [h2, hk]
    unfold modOk maybeA
    rw [h5]
    simp
  · rw [h2, hk, hce]
    show nowR 2 (cont2 a m.2.1) [] = ([], 0)
    unfold nowR twiceR
    simp [hca]
theorem inv1_start {E : List Att} (h : Inv0 a b (difL a b).length E) : Inv1 a b 0 E := by
  refine ⟨h.1, fun k => ?_⟩
  have h2 := h.2 k
  rw [List.take_length] at h2
  exact ⟨h2.1, fun _ h3 => by obtain ⟨m, hm, _⟩ := h3; simp at hm, fun h3 _ => h2.2 h3⟩
theorem inv1_skip {i : Nat} {E : List Att} {m : Chg7} (h : Inv1 a b i E) (hm : (difL a b)[i]? = some m) (hk : m.1 = 2) : Inv1 a b (i + 1) E := by
  refine ⟨h.1, fun k => ?_⟩
  have : setN ((difL a b).take (i + 1)) k ↔ setN ((difL a b).take i) k := by
    unfold setN
    constructor
    · rintro ⟨x, hx, h1, h2⟩
      rcases (take_in hm).1 hx with hx | rfl
      · exact ⟨x, hx, h1, h2⟩
      · exact absurd hk h1
    · rintro ⟨x, hx, h1⟩
      exact ⟨x, (take_in hm).2 (.inl hx), h1⟩
  rw [this]
  exact h.2 k
theorem inv1_step (ha : entOk a = true) (hb : entOk b = true) {i : Nat} {E : List Att} {m : Chg7} (h : Inv1 a b i E) (hm : (difL a b)[i]? = some m) (hk : m.1 ≠ 2) : ∃ E', doP E [m] = (E', 0) ∧ Inv1 a b (i + 1) E' := by
  have hin := List.mem_of_getElem? hm
  obtain ⟨h1, h2, h3, h4, h5⟩ := difL_in ha hb hin
  have hcb : cont2 b m.2.1 ≠ [] := fun e => hk ((kind_del ha hb hin).2 e)
  have hnd : ¬ delN (difL a b) m.2.1 := by
    rintro ⟨x, hx, hx1, hx2⟩
    rw [difL_same hx hin hx2] at hx1
    exact hk hx1
  have hns : ¬ setN ((difL a b).take i) m.2.1 := by
    rintro ⟨x, hx, _, hx2⟩
    exact difL_once hm x hx hx2
  have hce := (h.2 m.2.1).2.2 hnd hns
  obtain ⟨hg, _⟩ := entOk_good h.1
  have hrb : Rise (cont2 b m.2.1) := ((entOk_good hb).2 _ (cont2_ne hcb)).2
  obtain ⟨_, _, hbp⟩ := entOk_parts hb
  obtain ⟨p1, p2, p3, p4, p5⟩ := hbp _ (cont2_ne hcb)
  dsimp only at p1 p2 p3 p4 p5
  have hsc := fun k => setR_cont m.2.1 (cont2 b m.2.1) hg k
  have hI : ∀ k, (delN (difL a b) k → cont2 (setR E m.2.1 (cont2 b m.2.1)) k = []) ∧ (¬ delN (difL a b) k → setN ((difL a b).take (i + 1)) k → cont2 (setR E m.2.1 (cont2 b m.2.1)) k = cont2 b k) ∧ (¬ delN (difL a b) k → ¬ setN ((difL a b).take (i + 1)) k → cont2 (setR E m.2.1 (cont2 b m.2.1)) k = cont2 a k) := by
    intro k
    rw [hsc]
    by_cases hkk : k = m.2.1
    · rw [if_pos hkk]
      refine ⟨fun hd => absurd (by rw [← hkk]; exact hd) hnd, fun _ _ => by rw [hkk], fun _ hn => absurd ⟨m, (take_in hm).2 (.inr rfl), hk, hkk.symm⟩ hn⟩
    · rw [if_neg hkk]
      have : setN ((difL a b).take (i + 1)) k ↔ setN ((difL a b).take i) k := by
        unfold setN
        constructor
        · rintro ⟨x, hx, g1, g2⟩
          rcases (take_in hm).1 hx with hx | rfl
          · exact ⟨x, hx, g1, g2⟩
          · exact absurd g2.symm hkk
        · rintro ⟨x, hx, g1⟩
          exact ⟨x, (take_in hm).2 (.inl hx), g1⟩
      rw [this]
      exact h.2 k
  have hok : entOk (setR E m.2.1 (cont2 b m.2.1)) = true := by
    refine entOk_mix ha hb hb (setR_good _ _ hg) (fun k => ?_) (fun k hk2 => ?_)
    · by_cases hd : delN (difL a b) k
      · exact .inl ((hI k).1 hd)
      · by_cases hs : setN ((difL a b).take (i + 1)) k
        · exact .inr (.inr ((hI k).2.1 hd hs))
        · exact .inr (.inl ((hI k).2.2 hd hs))
    · by_cases hd : delN (difL a b) k
      · exact absurd ((hI k).1 hd) hk2
      · by_cases hs : setN ((difL a b).take (i + 1)) k
        · rw [← (hI k).2.1 hd hs]; exact hk2
        · have h8 := (hI k).2.2 hd hs
          by_cases he : cont2 a k = cont2 b k
          · rw [← he, ← h8]; exact hk2
          · obtain ⟨x, hx, hx2⟩ := difL_all ha hb he
            intro hbk
            refine hd ⟨x, hx, (kind_del ha hb hx).2 (by rw [hx2]; exact hbk), hx2⟩
  have hw : (cont2 b m.2.1).foldl withR [] = cont2 b m.2.1 := by
    have h8 := withs_ord (cont2 b m.2.1) []
    rw [ordS_none, List.nil_append, ordS_rise hrb] at h8
    exact h8
  have hb0 : ¬ (cont2 b m.2.1).length = 0 := by omega
  have hkv : (m.1 = 1 ∧ cont2 a m.2.1 = []) ∨ m.1 = 3 := by
    unfold kindP at h3
    rw [if_neg hb0] at h3
    split at h3
    · rename_i hz
      exact .inl ⟨by simpa using h3, List.length_eq_zero_iff.1 hz⟩
    · exact .inr (by simpa using h3)
  refine ⟨setR E m.2.1 (cont2 b m.2.1), do_one (now := []) h.1 ?_ h4 ?_ p2 hok, hok, hI⟩
  · rw [h2]
    unfold modOk
    have hp : 0 < (cont2 b m.2.1).length := p1
    rcases hkv with ⟨e, _⟩ | e
    · rw [e, if_neg (by omega), p4]; simp [hp]
    · rw [e, if_neg (by omega), p4]; simp
  · rw [h2, hce]
    rcases hkv with ⟨e, hca⟩ | e
    · rw [e]
      show nowR 1 (cont2 a m.2.1) (cont2 b m.2.1) = _
      unfold nowR twiceR
      rw [if_pos rfl, hca, List.nil_append, decide_eq_true (rise_nodup hrb), hw]
      rfl
    · rw [e]
      show nowR 3 (cont2 a m.2.1) (cont2 b m.2.1) = _
      unfold nowR
      rw [if_neg (by decide), if_neg (by decide), hw]
theorem inv1_end (ha : entOk a = true) (hb : entOk b = true) {E : List Att} (h : Inv1 a b (difL a b).length E) : E = b := by
  refine (entOk_good h.1).1.ext (entOk_good hb).1 (fun k => ?_)
  have h2 := h.2 k
  rw [List.take_length] at h2
  by_cases hd : delN (difL a b) k
  · rw [h2.1 hd]
    obtain ⟨m, hm, h3, h4⟩ := hd
    rw [← h4]
    exact ((kind_del ha hb hm).1 h3).symm
  · by_cases hs : setN (difL a b) k
    · exact h2.2.1 hd hs
    · rw [h2.2.2 hd hs]
      by_cases he : cont2 a k = cont2 b k
      · exact he
      · obtain ⟨m, hm, h4⟩ := difL_all ha hb he
        by_cases hk : m.1 = 2
        · exact absurd ⟨m, hm, hk, h4⟩ hd
        · exact absurd ⟨m, hm, hk, h4⟩ hs
end
end Go.Proofs.YtfjlcfbomlfpfaaGreatDoor
/- entry: EntryDiffs; walked. -/
namespace Go.Proofs.YtfjlcfbomlfpfaaGreatDoor
open Go.RowKit Go.Shelf
set_option linter.unusedVariables false
set_option linter.unusedSimpArgs false
set_option maxRecDepth 100000

set_option maxHeartbeats 16000000 in
theorem entrydiffs_any (A B : Option Addr) (n c m d : Nat) (l l2 : List At7) (w : World) (h : EntIn w A n l) (hnc : n ≤ c) (hc : c ≤ 9223372036854775807) (h2 : EntIn w B m l2) (hp : PowAt w) :
    Calls Tryz.prog 5 #[.slice A n c, .slice B m d] w fun e w' => e = .returned (.bool true) ∧ Keeps [] w w' := by
  have HE1 := Lib.hid h
  have HE2 := Lib.hid h2
  have HCC : Hid (n ≤ c ∧ c ≤ 9223372036854775807) := ⟨hnc, hc⟩
  have HLI1 := Lib.hid (light7_is A n c l w h)
  have HLI2 := Lib.hid (light7_is B m d l2 w h2)
  have HKN := Lib.hid (fun X (hX : Keeps [] w X) => known7_is X (hp.keep hX))
  clear h hp h2 hnc hc
  go_enter Tryz.func5, Tryz.ntmps5
  go_wp2_with fail
  refine HLI1.out.mono ?_
  rintro e w1 ⟨r1, rfl, hr1, rfl⟩
  have HR1 := Lib.hid hr1
  clear hr1
  cases r1
  · go_wp2_with fail
    refine (HKN.out _ (Keeps.refl [] w)).mono ?_
    rintro e y1 ⟨rfl, hy1⟩
    have HY1 := Lib.hid ((Keeps.refl [] w).trans' hy1)
    clear hy1
    go_wp2_with fail
    go_ret
    exact ⟨rfl, HY1.out⟩
  · go_wp2_with fail
    refine HLI2.out.mono ?_
    rintro e w1 ⟨r2, rfl, hr2, rfl⟩
    have HR2 := Lib.hid hr2
    clear hr2
    cases r2
    · go_wp2_with fail
      refine (HKN.out _ (Keeps.refl [] w)).mono ?_
      rintro e y1 ⟨rfl, hy1⟩
      have HY1 := Lib.hid ((Keeps.refl [] w).trans' hy1)
      clear hy1
      go_wp2_with fail
      go_ret
      exact ⟨rfl, HY1.out⟩
    · have hl1 : LightE l := HR1.out (by first | exact trivial | rfl)
      have hl2 : LightE l2 := HR2.out (by first | exact trivial | rfl)
      have HDI := Lib.hid (diff_is A B n c m d l l2 w HE1.out (hl1.few 1000 (by omega)) HE2.out (hl2.few 1000 (by omega)))
      have HRD := Lib.hid (fun X (hX : Keeps [] w X) => rdiff7_is A B n c m d l l2 X (EntIn.grow hX HE1.out) (hl1.few 1000 (by omega)) (EntIn.grow hX HE2.out) (hl2.few 1000 (by omega)))
      have HRA := Lib.hid (fun X (hX : Keeps [] w X) => rright7_is A n c l X (EntIn.grow hX HE1.out) (hl1.few 100000 (by omega)))
      have HRB := Lib.hid (fun X (hX : Keeps [] w X) => rright7_is B m d l2 X (EntIn.grow hX HE2.out) (hl2.few 100000 (by omega)))
      have HSA := Lib.hid (fun X (hX : Keeps [] w X) => rsame7_is A B n c m d l l2 X (EntIn.grow hX HE1.out) (EntIn.grow hX HE2.out) (hl1.few 100000 (by omega)))
      obtain ⟨q1, hq1⟩ : ∃ q, entOk (ents l) = q := ⟨_, rfl⟩
      obtain ⟨q2, hq2⟩ : ∃ q, entOk (ents l2) = q := ⟨_, rfl⟩
      rw [hq1] at HRA
      rw [hq2] at HRB
      have HOA := Lib.hid hq1
      have HOB := Lib.hid hq2
      clear hl1 hl2 hq1 hq2 HLI1 HLI2 HR1 HR2
      go_wp2_with fail
      refine HDI.out.mono ?_
      rintro e w3 ⟨A3, n3, c3, rfl, hQ3, hk3⟩
      have HQ3 := Lib.hid hQ3
      have HK3 := Lib.hid hk3
      clear hQ3 hk3 HDI
      have hno : q1 = false ∨ q2 = false → diffP (ents l) (ents l2) = ([], 2) := fun hq => by
        unfold diffP
        rw [if_pos (by rw [HOA.out, HOB.out]; exact hq)]
      have HNO := Lib.hid hno
      clear hno
      have hemp : diffP (ents l) (ents l2) = ([], 2) → n3 = 0 := fun hq => by
        obtain ⟨L, e1, e2, _⟩ := HQ3.out
        rw [hq] at e1
        have h9 : (modsOf L).length = L.length := by simp [modsOf]
        rw [e1] at h9
        rw [← e2.1, ← h9]
        rfl
      have HEM := Lib.hid hemp
      clear hemp
      go_wp2_with fail
      refine (HRA.out _ HK3.out).mono ?_
      rintro e w4 ⟨rfl, hk4⟩
      have HK4 := Lib.hid (HK3.out.trans' hk4)
      have HK34 := Lib.hid hk4
      clear hk4
      cases q1
      · have hd := HNO.out (.inl rfl)
        have hn3 := HEM.out hd
        subst hn3
        rw [hd]
        clear hd HQ3 HNO HEM
        go_wp2_with fail
        refine (HKN.out _ HK4.out).mono ?_
        rintro e y1 ⟨rfl, hy1⟩
        have HY1 := Lib.hid (HK4.out.trans' hy1)
        clear hy1
        go_wp2_with fail
        go_ret
        exact ⟨rfl, HY1.out⟩
      · go_wp2_with fail
        refine (HRB.out _ HK4.out).mono ?_
        rintro e w5 ⟨rfl, hk5⟩
        have HK5 := Lib.hid (HK4.out.trans' hk5)
        have HK35 := Lib.hid (HK34.out.trans' hk5)
        clear hk5
        cases q2
        · have hd := HNO.out (.inr rfl)
          have hn3 := HEM.out hd
          subst hn3
          rw [hd]
          clear hd HQ3 HNO HEM
          go_wp2_with fail
          refine (HKN.out _ HK5.out).mono ?_
          rintro e y1 ⟨rfl, hy1⟩
          have HY1 := Lib.hid (HK5.out.trans' hy1)
          clear hy1
          go_wp2_with fail
          go_ret
          exact ⟨rfl, HY1.out⟩
        · have hd : diffP (ents l) (ents l2) = (difL (ents l) (ents l2), 0) := by
            unfold diffP difL
            rw [if_neg (by rw [HOA.out, HOB.out]; simp)]
          obtain ⟨L3, e1, e2, e3, e4, e5⟩ := HQ3.out
          rw [hd] at e1
          have HML : Hid (modsOf L3 = difL (ents l) (ents l2)) := e1
          have HM3 : Hid (ModIn w3 A3 n3 L3) := e2
          have HMV := Lib.hid e5
          have HLD : Hid ((difL (ents l) (ents l2)).length = n3) := by show _ = _; rw [← HML.out, modsOf_len, e2.1]
          rw [hd]
          have HNL := Lib.hid (difL_nil HOA.out HOB.out)
          clear hd e1 e2 e3 e4 e5 HQ3 HNO HEM HRA HRB
          go_wp2_with fail
          refine (HRD.out _ HK5.out).mono ?_
          rintro e w6 ⟨A6, n6, c6, rfl, ⟨L6, f1, f2, f3, f4, f5⟩, hk6⟩
          have hmf : FewM 100000 L3 := by
            refine ⟨?_, fun x hx => ?_⟩
            · rw [← modsOf_len, HML.out]
              have h9 := List.Nodup.length_le_of_subset (l₂ := namesT (ents l) ++ namesT (ents l2)) (difL_nodup (a := ents l) (b := ents l2)) (fun y hy => by
                obtain ⟨z, hz, rfl⟩ := List.mem_map.1 hy
                unfold difL diffsP at hz
                obtain ⟨k, hk, rfl⟩ := List.mem_map.1 hz
                exact ((ordS_is _).2 k).1 (List.mem_filter.1 hk).1)
              have h8 := (entOk_parts HOA.out).2.1
              have h7 := (entOk_parts HOB.out).2.1
              simp [namesT] at h9
              omega
            · rw [← HMV.out x hx]
              have h9 := (difL_in HOA.out HOB.out (m := x.mod) (by rw [← HML.out]; unfold modsOf; exact List.mem_map_of_mem hx)).2.1
              have h8 := cont2_len (m := 16) (fun a ha => ((entOk_parts HOB.out).2.2 a ha).2.1) x.mod.2.1
              rw [← h9] at h8
              have h7 : x.mod.2.2 = x.a.vs := rfl
              rw [h7] at h8
              omega
          have hn3b : n3 ≤ 100000 := by rw [← HM3.out.1]; exact hmf.1
          have HSM := Lib.hid (rsamemods_is A3 A6 n3 c3 n6 c6 L3 L6 w6 (ModIn.grow (HK35.out.trans' hk6) HM3.out) f2 hmf)
          have hsm : (modsOf L3 == modsOf L6) = true := by rw [f1, HML.out]; simp [difL]
          rw [hsm] at HSM
          have HK6 := Lib.hid (HK5.out.trans' hk6)
          have HK36 := Lib.hid (HK35.out.trans' hk6)
          clear f1 f2 f3 f4 f5 hk6 hmf hsm HRD
          go_wp2_with fail
          refine HSM.out.mono ?_
          rintro e w7 ⟨rfl, hk7⟩
          have HK7 := Lib.hid (HK6.out.trans' hk7)
          have HK37 := Lib.hid (HK36.out.trans' hk7)
          have HSS := Lib.hid (HSA.out _ HK7.out)
          obtain ⟨q, hq⟩ : ∃ q, (ents l == ents l2) = q := ⟨_, rfl⟩
          rw [hq] at HSS
          have HQ := Lib.hid hq
          have hz : (decide (n3 = 0)) = q := by
            rw [← hq, Bool.eq_iff_iff, decide_eq_true_eq, beq_iff_eq, ← HNL.out, ← HLD.out]
            exact List.length_eq_zero_iff
          have hzb : ((n3 : Int) == 0) = q := by
            rw [← hz, Bool.eq_iff_iff]
            simp
          have hzi : decide ((n3 : Int) = 0) = q := by rw [← hzb]; rfl
          have hqq : (q != q) = false := by cases q <;> rfl
          clear hk7 hq hz HSM
          go_wp2_with fail
          refine HSS.out.mono ?_
          rintro e w8 ⟨rfl, hk8⟩
          have HK8 := Lib.hid (HK7.out.trans' hk8)
          have HK38 := Lib.hid (HK37.out.trans' hk8)
          clear hk8 HSS HSA
          go_wp2_with fail
          have HQS : Hid (EntQ (ents l) w A n c w8) := ⟨l, rfl, EntIn.grow HK8.out HE1.out, HCC.out.1, HCC.out.2, fun a ha => (HE1.out.2.1 a ha).2.2.2.1⟩
          clear hzb hzi hqq
          go_loopw [7, 8, 9] (fun x f i wr => ∃ (A' : Option Addr) (k c' tn : Nat) (E : List Att), x = .slice A' k c' ∧ f = .int .i64 0 ∧ i = .int .i64 (tn : Int) ∧ tn ≤ 2 ∧ Hid (EntQ E w A' k c' wr ∧ (tn = 0 → Inv0 (ents l) (ents l2) 0 E) ∧ (tn = 1 → Inv1 (ents l) (ents l2) 0 E) ∧ (tn = 2 → E = ents l2)) ∧ Hid (Keeps [] w3 wr)) (fun _ _ i _ => 2 - (intOf i).toNat)
          case atStart => exact ⟨A, n, c, 0, ents l, rfl, rfl, rfl, by omega, ⟨HQS.out, fun _ => inv0_start HOA.out, by omega, by omega⟩, HK38.out⟩
          clear HQS
          case round =>
            obtain ⟨A', k, c', tn, E, rfl, rfl, rfl, htn, HQ, HKS⟩ := hrel
            obtain ⟨U, hU⟩ : ∃ U : World, U = wr := ⟨_, rfl⟩
            subst hU
            rcases (by omega : tn = 0 ∨ tn = 1 ∨ tn = 2) with rfl | rfl | rfl
            · have HI : Hid (Inv0 (ents l) (ents l2) 0 E) := HQ.out.2.1 rfl
              go_wp2_with fail
              go_loopw [7, 8, 10] (fun x f i wq => ∃ (A' : Option Addr) (k c' j : Nat) (E : List Att), x = .slice A' k c' ∧ f = .int .i64 0 ∧ i = .int .i64 (j : Int) ∧ j ≤ n3 ∧ Hid (EntQ E w A' k c' wq ∧ Inv0 (ents l) (ents l2) j E) ∧ Hid (Keeps [] w3 wq)) (fun _ _ i _ => n3 - (intOf i).toNat)
              case atStart => exact ⟨A', k, c', 0, E, rfl, rfl, rfl, Nat.zero_le _, ⟨HQ.out.1, HI.out⟩, HKS.out⟩
              case round =>
                obtain ⟨A', k, c', j, E, rfl, rfl, rfl, hj, HQ, HKQ⟩ := hrel
                by_cases hlt : j < n3
                · obtain ⟨hl, hp, hc9⟩ := ModIn.grow HKQ.out HM3.out
                  obtain ⟨b, o, hA9, hcc⟩ := hc9 (by omega)
                  clear hc9
                  have HA3 := Lib.hid hA9
                  subst hA9
                  obtain ⟨x, hu⟩ : ∃ a, L3[j]? = some a := ⟨_, List.getElem?_eq_getElem (by omega)⟩
                  obtain ⟨c0, c1, c2⟩ := hcc j x hu
                  have hfit := hp x (List.mem_of_getElem? hu)
                  have hue := mods_at hu
                  rw [HML.out] at hue
                  have HUE := Lib.hid hue
                  have hxv := HMV.out x (List.mem_of_getElem? hu)
                  have hvb := (difL_in HOA.out HOB.out (List.mem_of_getElem? hue)).2.1
                  have hv16 : x.a.n ≤ 1000 := by
                    rw [← hxv, show x.a.vs = x.mod.2.2 from rfl, hvb]
                    have := cont2_len (m := 16) (fun a ha => ((entOk_parts HOB.out).2.2 a ha).2.1) x.mod.2.1
                    omega
                  obtain ⟨K, nm, aA, an, ac, avs⟩ := x
                  dsimp only at c0 c1 c2 hv16
                  unfold tv at c1
                  unfold Mod7.mod At7.att at HUE
                  dsimp only at HUE
                  obtain ⟨LE, e1, e2, e3, e4, e5⟩ := HQ.out.1
                  have HDO := Lib.hid (fun (X : World) (hX : Keeps [] wr X) => do_is A' k c' LE (some ⟨X.heap.size, 0, none⟩) 1 1 [⟨K, ⟨nm, aA, an, ac, avs⟩⟩] _ (EntIn.grow (hX.alloc _) e2) ⟨by rw [← ents_len, e1]; have := (entOk_parts HQ.out.2.1).2.1; omega, fun a ha => by
                    rw [← e5 a ha]
                    have h8 := ((entOk_parts HQ.out.2.1).2.2 a.att (by rw [← e1]; unfold ents; exact List.mem_map_of_mem ha)).2.1
                    have h9 : a.att.2.length = a.vs.length := rfl
                    omega⟩ (mods_lit X [⟨K, ⟨nm, aA, an, ac, avs⟩⟩] 1 #[.int .i64 K, tv nm, .slice aA an ac] rfl rfl (by omega) (fun y hy => by simp at hy; subst hy; exact hfit.grow hX)) ⟨by simp, fun y hy => by simp at hy; subst hy; exact hv16⟩)
                  rw [e1, show modsOf [⟨K, ⟨nm, aA, an, ac, avs⟩⟩] = [((K : Int), (nm, avs))] from rfl] at HDO
                  unfold tv at HDO
                  have hji : (j : Int) < (n3 : Int) := by omega
                  have hj0 : (0 : Int) ≤ (j : Int) := by omega
                  clear hcc hu hue hp hl hfit hxv hvb e1 e2 e3 e4 e5
                  by_cases hK : K = 2
                  · obtain ⟨E5, hE5, hI5⟩ := inv0_step HOA.out HOB.out HQ.out.2 HUE.out hK
                    rw [hE5] at HDO
                    have HI5 := Lib.hid hI5
                    subst hK
                    clear hE5 hI5
                    go_wp2_with fail
                    refine (HDO.out _ (Keeps.refl _ _)).mono ?_
                    rintro e w5 ⟨A5, n5, c5, rfl, hQ5, hk5⟩
                    have HQ5 : Hid (EntQ E5 w A5 n5 c5 w5) := hQ5
                    have HK5 : Hid (Keeps [] w3 w5) := HKQ.out.trans' (((Keeps.refl [] wr).alloc _).trans' hk5)
                    clear hQ5 hk5 HDO
                    go_wp2_with fail
                    go_roundw
                    case rel => exact ⟨A5, n5, c5, j + 1, E5, rfl, rfl, by go_num, by omega, ⟨HQ5.out, HI5.out⟩, HK5.out⟩
                    case measure => simp [intOf]; omega
                  · have HI5 := Lib.hid (inv0_skip HQ.out.2 HUE.out hK)
                    have hKb : (K == 2) = false := by simpa using hK
                    clear HDO
                    go_wp2_with fail
                    go_roundw
                    case rel => exact ⟨A', k, c', j + 1, E, rfl, rfl, by go_num, by omega, ⟨HQ.out.1, HI5.out⟩, HKQ.out⟩
                    case measure => simp [intOf]; omega
                · obtain rfl : j = n3 := by omega
                  have HNX := Lib.hid (inv1_start (by rw [HLD.out]; exact HQ.out.2))
                  go_wp2_with fail
                  go_roundw
                  case rel => exact ⟨A', k, c', 1, E, rfl, rfl, by go_num, by omega, ⟨HQ.out.1, by omega, fun _ => HNX.out, by omega⟩, HKQ.out⟩
                  case measure => simp [intOf]
            · have HI : Hid (Inv1 (ents l) (ents l2) 0 E) := HQ.out.2.2.1 rfl
              go_wp2_with fail
              go_loopw [7, 8, 10] (fun x f i wq => ∃ (A' : Option Addr) (k c' j : Nat) (E : List Att), x = .slice A' k c' ∧ f = .int .i64 0 ∧ i = .int .i64 (j : Int) ∧ j ≤ n3 ∧ Hid (EntQ E w A' k c' wq ∧ Inv1 (ents l) (ents l2) j E) ∧ Hid (Keeps [] w3 wq)) (fun _ _ i _ => n3 - (intOf i).toNat)
              case atStart => exact ⟨A', k, c', 0, E, rfl, rfl, rfl, Nat.zero_le _, ⟨HQ.out.1, HI.out⟩, HKS.out⟩
              case round =>
                obtain ⟨A', k, c', j, E, rfl, rfl, rfl, hj, HQ, HKQ⟩ := hrel
                by_cases hlt : j < n3
                · obtain ⟨hl, hp, hc9⟩ := ModIn.grow HKQ.out HM3.out
                  obtain ⟨b, o, hA9, hcc⟩ := hc9 (by omega)
                  clear hc9
                  have HA3 := Lib.hid hA9
                  subst hA9
                  obtain ⟨x, hu⟩ : ∃ a, L3[j]? = some a := ⟨_, List.getElem?_eq_getElem (by omega)⟩
                  obtain ⟨c0, c1, c2⟩ := hcc j x hu
                  have hfit := hp x (List.mem_of_getElem? hu)
                  have hue := mods_at hu
                  rw [HML.out] at hue
                  have HUE := Lib.hid hue
                  have hxv := HMV.out x (List.mem_of_getElem? hu)
                  have hvb := (difL_in HOA.out HOB.out (List.mem_of_getElem? hue)).2.1
                  have hv16 : x.a.n ≤ 1000 := by
                    rw [← hxv, show x.a.vs = x.mod.2.2 from rfl, hvb]
                    have := cont2_len (m := 16) (fun a ha => ((entOk_parts HOB.out).2.2 a ha).2.1) x.mod.2.1
                    omega
                  obtain ⟨K, nm, aA, an, ac, avs⟩ := x
                  dsimp only at c0 c1 c2 hv16
                  unfold tv at c1
                  unfold Mod7.mod At7.att at HUE
                  dsimp only at HUE
                  obtain ⟨LE, e1, e2, e3, e4, e5⟩ := HQ.out.1
                  have HDO := Lib.hid (fun (X : World) (hX : Keeps [] wr X) => do_is A' k c' LE (some ⟨X.heap.size, 0, none⟩) 1 1 [⟨K, ⟨nm, aA, an, ac, avs⟩⟩] _ (EntIn.grow (hX.alloc _) e2) ⟨by rw [← ents_len, e1]; have := (entOk_parts HQ.out.2.1).2.1; omega, fun a ha => by
                    rw [← e5 a ha]
                    have h8 := ((entOk_parts HQ.out.2.1).2.2 a.att (by rw [← e1]; unfold ents; exact List.mem_map_of_mem ha)).2.1
                    have h9 : a.att.2.length = a.vs.length := rfl
                    omega⟩ (mods_lit X [⟨K, ⟨nm, aA, an, ac, avs⟩⟩] 1 #[.int .i64 K, tv nm, .slice aA an ac] rfl rfl (by omega) (fun y hy => by simp at hy; subst hy; exact hfit.grow hX)) ⟨by simp, fun y hy => by simp at hy; subst hy; exact hv16⟩)
                  rw [e1, show modsOf [⟨K, ⟨nm, aA, an, ac, avs⟩⟩] = [((K : Int), (nm, avs))] from rfl] at HDO
                  unfold tv at HDO
                  have hji : (j : Int) < (n3 : Int) := by omega
                  have hj0 : (0 : Int) ≤ (j : Int) := by omega
                  clear hcc hu hue hp hl hfit hxv hvb e1 e2 e3 e4 e5
                  by_cases hK : K = 2
                  · have HI5 := Lib.hid (inv1_skip HQ.out.2 HUE.out hK)
                    subst hK
                    clear HDO
                    go_wp2_with fail
                    go_roundw
                    case rel => exact ⟨A', k, c', j + 1, E, rfl, rfl, by go_num, by omega, ⟨HQ.out.1, HI5.out⟩, HKQ.out⟩
                    case measure => simp [intOf]; omega
                  · obtain ⟨E5, hE5, hI5⟩ := inv1_step HOA.out HOB.out HQ.out.2 HUE.out hK
                    rw [hE5] at HDO
                    have HI5 := Lib.hid hI5
                    have hKb : (K == 2) = false := by simpa using hK
                    clear hE5 hI5
                    go_wp2_with fail
                    refine (HDO.out _ (Keeps.refl _ _)).mono ?_
                    rintro e w5 ⟨A5, n5, c5, rfl, hQ5, hk5⟩
                    have HQ5 : Hid (EntQ E5 w A5 n5 c5 w5) := hQ5
                    have HK5 : Hid (Keeps [] w3 w5) := HKQ.out.trans' (((Keeps.refl [] wr).alloc _).trans' hk5)
                    clear hQ5 hk5 HDO
                    go_wp2_with fail
                    go_roundw
                    case rel => exact ⟨A5, n5, c5, j + 1, E5, rfl, rfl, by go_num, by omega, ⟨HQ5.out, HI5.out⟩, HK5.out⟩
                    case measure => simp [intOf]; omega
                · obtain rfl : j = n3 := by omega
                  have HNX := Lib.hid (inv1_end HOA.out HOB.out (by rw [HLD.out]; exact HQ.out.2))
                  go_wp2_with fail
                  go_roundw
                  case rel => exact ⟨A', k, c', 2, E, rfl, rfl, by go_num, by omega, ⟨HQ.out.1, by omega, by omega, fun _ => HNX.out⟩, HKQ.out⟩
                  case measure => simp [intOf]
            · have hE : E = ents l2 := HQ.out.2.2.2 rfl
              obtain ⟨LE, e1, e2, e3, e4, e5⟩ := HQ.out.1
              have HSB := Lib.hid (rsame7_is A' B k c' m d LE l2 U e2 (EntIn.grow (HK3.out.trans' HKS.out) HE2.out) ⟨by rw [← ents_len, e1, hE]; have := (entOk_parts HOB.out).2.1; omega, fun a ha => by
                rw [← e5 a ha]
                have h8 := ((entOk_parts HOB.out).2.2 a.att (by rw [← hE, ← e1]; unfold ents; exact List.mem_map_of_mem ha)).2.1
                have h9 : a.att.2.length = a.vs.length := rfl
                omega⟩)
              rw [e1, hE] at HSB
              have hself : (ents l2 == ents l2) = true := by simp
              rw [hself] at HSB
              have HKE : Hid (Keeps [] w U) := HK3.out.trans' HKS.out
              clear hE e1 e2 e3 e4 e5 hself HQ
              go_wp2_with fail
              refine HSB.out.mono ?_
              rintro e x2 ⟨rfl, hk9⟩
              have HK9 := Lib.hid (HKE.out.trans' hk9)
              clear hk9
              go_wp2_with fail
              refine (HKN.out _ HK9.out).mono ?_
              rintro e y1 ⟨rfl, hy1⟩
              have HY1 := Lib.hid (HK9.out.trans' hy1)
              clear hy1
              go_wp2_with fail
              go_ret
              exact ⟨rfl, HY1.out⟩
end Go.Proofs.YtfjlcfbomlfpfaaGreatDoor
