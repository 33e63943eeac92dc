
/- entry: put; walked. -/
import Derived.Test.YtmgkejgmkfeccaaGreatDoorW2
namespace Go.Proofs.YtmgkejgmkfeccaaGreatDoor
open Go.RowKit Go.Maps Go.ChangeMaps Go.MapKept
set_option linter.unusedVariables false
set_option linter.unusedSimpArgs false
set_option maxRecDepth 100000

/-- A table, but for what lies at one name. -/
structure TabX (w : World) (b base : Nat) (T : List At7) (k : Txt) : Prop where
  map : VAt w b (vt T)
  ge : base ≤ b
  rows : ∀ a ∈ T, a.name ≠ k → RowOk w base a ∧ 0 < a.n
  apart : ∀ a ∈ T, ∀ a' ∈ T, a.name ≠ k → a'.name ≠ k → a.name ≠ a'.name → a.val.ownBlock ≠ a'.val.ownBlock
theorem TabI.but {w : World} {b base : Nat} {T : List At7} (h : TabI w b base T) (k : Txt) : TabX w b base T k := ⟨h.map, h.ge, fun a ha _ => h.rows a ha, fun a ha a' ha' _ _ hd => h.apart a ha a' ha' hd⟩
theorem TabX.put {w w' : World} {b base : Nat} {T : List At7} {x : At7} (h : TabX w b base T x.name) (hv : VAt w' b (vput (vt T) x.name x.val)) (hk : Keeps [b] w w') (hx : RowOk w base x) (hn : 0 < x.n) (ha : ∀ a ∈ T, a.name ≠ x.name → a.val.ownBlock ≠ x.val.ownBlock) : TabI w' b base (aput T x) := by
  have hne : ∀ {a : At7}, RowOk w base a → 0 < a.n → ∀ g, a.val.ownBlock = some g → g ∉ [b] := fun {a} hr hn g hg hm => by
    obtain ⟨g', h1, h2, h3, cs, h4⟩ := hr.blk hn
    rw [hg] at h1
    injection h1 with h1
    subst h1
    simp only [List.mem_singleton] at hm
    subst hm
    exact h.map.notcells h4
  refine ⟨by rw [vt_put]; exact hv, h.ge, fun a hm => ?_, fun a hm a' hm' hd => ?_⟩
  · rcases aput_mem.1 hm with e1 | ⟨m1, d1⟩
    · rw [e1]; exact ⟨hx.keep hk (hne hx hn), hn⟩
    · exact ⟨(h.rows a m1 d1).1.keep hk (hne (h.rows a m1 d1).1 (h.rows a m1 d1).2), (h.rows a m1 d1).2⟩
  · rcases aput_mem.1 hm with e1 | ⟨m1, d1⟩
    · rcases aput_mem.1 hm' with e2 | ⟨m2, d2⟩
      · rw [e1, e2] at hd; exact absurd rfl hd
      · rw [e1]; exact fun e => ha a' m2 d2 e.symm
    · rcases aput_mem.1 hm' with e2 | ⟨m2, d2⟩
      · rw [e2]; exact ha a m1 d1
      · exact h.apart a m1 a' m2 d1 d2 hd
theorem TabX.del {w w' : World} {b base : Nat} {T : List At7} {k : Txt} (h : TabX w b base T k) (hv : VAt w' b (vdel (vt T) k)) (hk : Keeps [b] w w') : TabI w' b base (adel T k) := by
  refine ⟨by rw [vt_del]; exact hv, h.ge, fun a hm => ?_, fun a hm a' hm' hd => h.apart a (adel_mem.1 hm).1 a' (adel_mem.1 hm').1 (adel_mem.1 hm).2 (adel_mem.1 hm').2 hd⟩
  obtain ⟨m1, d1⟩ := adel_mem.1 hm
  refine ⟨(h.rows a m1 d1).1.keep hk (fun g hg hmm => ?_), (h.rows a m1 d1).2⟩
  obtain ⟨g', h1, h2, h3, cs, h4⟩ := (h.rows a m1 d1).1.blk (h.rows a m1 d1).2
  rw [hg] at h1
  injection h1 with h1
  subst h1
  simp only [List.mem_singleton] at hmm
  subst hmm
  exact h.map.notcells h4
theorem vt_len (T : List At7) : (vt T).length = T.length := by simp [vt]

theorem put_some (b base : Nat) (T : List At7) (x : At7) (w : World) (h : TabX w b base T x.name) (hx : RowOk w base x) (hn : 0 < x.n) (ha : ∀ a ∈ T, a.name ≠ x.name → a.val.ownBlock ≠ x.val.ownBlock) (hT : T.length ≤ 100000) :
    Calls Tryz.prog 64 #[.map (some b), tv x.name, .slice x.A x.n x.c] w fun e w' => (∃ v, e = .returned v) ∧ TabI w' b base (aput T x) ∧ Keeps [b] w w' := by
  obtain ⟨w2, hrun, hv, hk, hz⟩ := run_vput h.map 63 Tryz.underlying63 x.name x.val (by have := hx.name; unfold maxLen; omega) (by rw [vt_len]; unfold maxLen; omega)
  have HT := Lib.hid (h.put hv hk hx hn ha)
  have HK := Lib.hid hk
  obtain ⟨nm, aA, an, ac, avs⟩ := x
  unfold At7.val at hrun
  dsimp only at hrun hn
  unfold tv
  dsimp only
  have hg : ¬ (an : Int) = 0 := by omega
  have hgb : ((an : Int) == 0) = false := by simp; omega
  clear h hx ha hv hk hz hn
  go_enter Tryz.func64, Tryz.ntmps64
  go_wp2_with fail
  go_end0
  exact ⟨⟨_, rfl⟩, HT.out, HK.out⟩
theorem put_none (b base : Nat) (T : List At7) (name : Txt) (A : Option Addr) (c : Nat) (w : World) (h : TabX w b base T name) (hn : name.length ≤ 9223372036854775807) :
    Calls Tryz.prog 64 #[.map (some b), tv name, .slice A 0 c] w fun e w' => (∃ v, e = .returned v) ∧ TabI w' b base (adel T name) ∧ Keeps [b] w w' := by
  obtain ⟨w2, hrun, hv, hk, hz⟩ := run_vdel h.map 63 Tryz.underlying63 name (by unfold maxLen; omega) 0
  have HT := Lib.hid (h.del hv hk)
  have HK := Lib.hid hk
  unfold tv
  clear h hn hv hk hz
  go_enter Tryz.func64, Tryz.ntmps64
  go_wp2_with fail
  refine bodyPost_ret (results_none rfl _ _ _) rfl ?_
  exact ⟨⟨_, rfl⟩, HT.out, HK.out⟩
theorem rise_eq : ∀ {T : List At7}, (T.Pairwise fun a a' => a.name < a'.name) → ∀ a ∈ T, ∀ a' ∈ T, a.name = a'.name → a = a'
  | [], _, a, ha, _, _, _ => by cases ha
  | y :: r, h, a, ha, a', ha', he => by
    have h' := List.pairwise_cons.1 h
    rcases List.mem_cons.1 ha with e1 | m1
    · rcases List.mem_cons.1 ha' with e2 | m2
      · rw [e1, e2]
      · have := h'.1 a' m2
        rw [← e1, he] at this
        exact absurd this (tx_irr _)
    · rcases List.mem_cons.1 ha' with e2 | m2
      · have := h'.1 a m1
        rw [← e2, he] at this
        exact absurd this (tx_irr _)
      · exact rise_eq h'.2 a m1 a' m2 he
theorem aget_some {T : List At7} (h : T.Pairwise fun a a' => a.name < a'.name) {a : At7} (ha : a ∈ T) : aget T a.name = some a := by
  cases hg : aget T a.name with
  | none => exact absurd rfl (aget_none hg a ha)
  | some a' =>
    obtain ⟨h1, h2⟩ := aget_mem hg
    rw [rise_eq h a' h1 a ha h2]
/-- What a table has at a name. -/
def cont (T : List At7) (k : Txt) : List Txt := ((aget T k).map At7.vs).getD []
theorem cont_put {T : List At7} {x : At7} (h : T.Pairwise fun a a' => a.name < a'.name) (h2 : (aput T x).Pairwise fun a a' => a.name < a'.name) (k : Txt) : cont (aput T x) k = if k = x.name then x.vs else cont T k := by
  unfold cont
  by_cases hk : k = x.name
  · rw [if_pos hk, hk, aget_some h2 (aput_mem.2 (.inl rfl))]
    rfl
  · rw [if_neg hk]
    cases hg : aget T k with
    | some a =>
      obtain ⟨h3, h4⟩ := aget_mem hg
      have := aget_some h2 (aput_mem.2 (.inr ⟨h3, by rw [h4]; exact hk⟩))
      rw [h4] at this
      rw [this]
    | none =>
      cases hg2 : aget (aput T x) k with
      | none => rfl
      | some a =>
        obtain ⟨h3, h4⟩ := aget_mem hg2
        rcases aput_mem.1 h3 with e | ⟨m, _⟩
        · rw [e] at h4; exact absurd h4.symm hk
        · exact absurd h4 (aget_none hg a m)
theorem cont_del {T : List At7} {n : Txt} (h : T.Pairwise fun a a' => a.name < a'.name) (k : Txt) : cont (adel T n) k = if k = n then [] else cont T k := by
  have h2 : (adel T n).Pairwise fun a a' => a.name < a'.name := h.filter _
  unfold cont
  by_cases hk : k = n
  · rw [if_pos hk]
    cases hg : aget (adel T n) k with
    | none => rfl
    | some a =>
      obtain ⟨h3, h4⟩ := aget_mem hg
      exact absurd (h4.trans hk) (adel_mem.1 h3).2
  · rw [if_neg hk]
    cases hg : aget T k with
    | some a =>
      obtain ⟨h3, h4⟩ := aget_mem hg
      have := aget_some h2 (adel_mem.2 ⟨h3, by rw [h4]; exact hk⟩)
      rw [h4] at this
      rw [this]
    | none =>
      cases hg2 : aget (adel T n) k with
      | none => rfl
      | some a =>
        obtain ⟨h3, h4⟩ := aget_mem hg2
        exact absurd h4 (aget_none hg a (adel_mem.1 h3).1)
theorem ains_len (x : At7) : ∀ T : List At7, (ains x T).length = T.length + 1
  | [] => rfl
  | y :: r => by
    unfold ains
    split
    · rfl
    · simp [ains_len x r]
theorem aput_len (T : List At7) (x : At7) : (aput T x).length ≤ T.length + 1 := by
  unfold aput adel
  rw [ains_len]
  have := List.length_filter_le (fun a : At7 => !(a.name == x.name)) T
  omega
theorem adel_len (T : List At7) (k : Txt) : (adel T k).length ≤ T.length := by
  unfold adel
  exact List.length_filter_le _ T
end Go.Proofs.YtmgkejgmkfeccaaGreatDoor
