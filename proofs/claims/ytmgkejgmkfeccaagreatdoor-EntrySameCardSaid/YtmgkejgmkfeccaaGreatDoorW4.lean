
/- entry: tableOf; walked. -/
import Derived.Test.YtmgkejgmkfeccaaGreatDoorW3
namespace Go.Proofs.YtmgkejgmkfeccaaGreatDoor
open Go.RowKit Go.Maps Go.ChangeMaps Go.MapKept
set_option linter.unusedVariables false
set_option linter.unusedSimpArgs false
set_option maxRecDepth 100000

/-- All the Values that are told for a name, in whatever letters. -/
def gath (e : List Att) (k : Txt) : List Txt := (e.filter fun a => smallL a.1 == k).flatMap fun a => a.2
theorem gath_take {e : List Att} {j : Nat} {a : Att} (h : e[j]? = some a) (k : Txt) : gath (e.take (j + 1)) k = if k = smallL a.1 then gath (e.take j) k ++ a.2 else gath (e.take j) k := by
  unfold gath
  rw [List.take_add_one, h, List.filter_append, List.flatMap_append]
  by_cases hk : k = smallL a.1
  · rw [if_pos hk]
    simp [hk]
  · rw [if_neg hk]
    have : (smallL a.1 == k) = false := by simpa using fun e => hk e.symm
    simp [this]
/-- A table that has what attributes tell. -/
structure TabOf (w : World) (b base : Nat) (T : List At7) (e : List Att) : Prop where
  tab : TabI w b base T
  con : ∀ k, cont T k = gath e k
  len : T.length ≤ e.length
theorem StrsIn.src {w : World} {A : Option Addr} {n : Nat} {l : List Txt} (h : StrsIn w A n l) : Src w A n (l.map tv) := by
  refine ⟨fun hA => ?_, fun ad hA j u hu => ?_⟩
  · rcases Nat.eq_zero_or_pos n with h0 | h0
    · exact h0
    · obtain ⟨b, o, e, _⟩ := h.2.2 h0
      rw [hA] at e
      cases e
  · rw [List.getElem?_map] at hu
    obtain ⟨s, hs, rfl⟩ := Option.map_eq_some_iff.1 hu
    have hp : 0 < n := by have := (List.getElem?_eq_some_iff.1 hs).1; rw [h.1] at this; omega
    obtain ⟨b, o, e, hc⟩ := h.2.2 hp
    rw [hA] at e
    injection e with e
    rw [e, add_at]
    exact hc j s hs
theorem tvs_one (l : List Txt) : ∀ u ∈ l.map tv, u.oneCell' = true := by
  intro u hu
  obtain ⟨s, _, rfl⟩ := List.mem_map.1 hu
  rfl
/-- The slice that a table has at a name (none: the nil one), and its row. -/
theorem TabI.at_ {w : World} {b base : Nat} {T : List At7} (h : TabI w b base T) (k : Txt) : ∃ A n c, vval (vt T) k = .slice A n c ∧ (cont T k).length = n ∧ w.ownsRow base 9 1 (.slice A n c) n ((cont T k).map tv) ∧ (∀ s ∈ cont T k, s.length ≤ 9223372036854775807) ∧ ∀ a ∈ T, a.name ≠ k → a.val.ownBlock ≠ (Value.slice A n c).ownBlock := by
  rw [vt_val]
  unfold cont
  cases hg : aget T k with
  | none => exact ⟨none, 0, 0, rfl, rfl, World.ownsRow_nil _ _ _ _, by simp, fun a ha _ e => by
      obtain ⟨g, h1, _⟩ := (h.rows a ha).1.blk (h.rows a ha).2
      rw [h1] at e
      simp [Value.ownBlock] at e⟩
  | some a =>
    obtain ⟨h1, h2⟩ := aget_mem hg
    have hr := (h.rows a h1).1
    exact ⟨a.A, a.n, a.c, rfl, hr.len, hr.row, hr.txt, fun a' ha' hd => h.apart a' ha' a h1 (by rw [h2]; exact hd)⟩

/-- What an append to a table's slice leaves: all of the table but that slice's own entry. -/
theorem TabI.grown {w w' : World} {b base : Nat} {T : List At7} {k : Txt} {v : Value} (h : TabI w b base T) (hg : w.grownBy w' v.ownBlock) (hb : ∀ g, v.ownBlock = some g → ∃ cs, w.heap[g]? = some (.cells cs 9 (0, 0))) (ha : ∀ a ∈ T, a.name ≠ k → a.val.ownBlock ≠ v.ownBlock) : TabX w' b base T k := by
  have hk : Keeps v.ownBlock.toList w w' := Keeps.of_grown hg (fun x hx => .inl (by rw [hx]; simp))
  refine ⟨h.map.keep hk (fun hm => ?_), h.ge, fun a hm hd => ⟨(h.rows a hm).1.keep hk (fun g hgg hmm => ?_), (h.rows a hm).2⟩, fun a hm a' hm' _ _ hd => h.apart a hm a' hm' hd⟩
  · have h9 : v.ownBlock = some b := by simpa using hm
    obtain ⟨cs, h4⟩ := hb b h9
    exact h.map.notcells h4
  · have h9 : v.ownBlock = some g := by simpa using hmm
    exact ha a hm hd (hgg.trans h9.symm)
theorem own_cells {w : World} {base n c : Nat} {A : Option Addr} {xs : List Value} (h : w.ownsRow base 9 1 (.slice A n c) n xs) : ∀ g, (Value.slice A n c).ownBlock = some g → ∃ cs, w.heap[g]? = some (.cells cs 9 (0, 0)) := fun g hg => by
  rcases h.2 with ⟨hv, h2⟩ | ⟨g', cap, cur, hA, _, hh, r⟩
  · rw [hv] at hg
    simp [Value.ownBlock] at hg
  · rw [hA] at hg
    simp [Value.ownBlock] at hg
    subst hg
    exact ⟨cur, hh⟩
end Go.Proofs.YtmgkejgmkfeccaaGreatDoor
