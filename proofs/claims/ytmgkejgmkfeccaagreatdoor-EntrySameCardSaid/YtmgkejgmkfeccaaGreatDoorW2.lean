
/- entry: a table in memory: its map, and the Values' rows. -/
import Derived.Test.YtmgkejgmkfeccaaGreatDoorW1
import Derived.Test.YtmgkejgmkfeccaaGreatDoorV5
namespace Go.Proofs.YtmgkejgmkfeccaaGreatDoor
open Go.RowKit Go.Maps Go.ChangeMaps Go.MapKept
set_option linter.unusedVariables false
set_option linter.unusedSimpArgs false
set_option maxRecDepth 100000

def At7.val (a : At7) : Value := .slice a.A a.n a.c
def vt (T : List At7) : VT := T.map fun a => (a.name, a.val)
/-- An attribute whose Values lie in a row of the call's own. -/
structure RowOk (w : World) (base : Nat) (a : At7) : Prop where
  row : w.ownsRow base 9 1 (.slice a.A a.n a.c) a.n (a.vs.map tv)
  len : a.vs.length = a.n
  txt : ∀ s ∈ a.vs, s.length ≤ 9223372036854775807
  name : a.name.length ≤ 9223372036854775807
theorem RowOk.strs {w : World} {base : Nat} {a : At7} (h : RowOk w base a) : StrsIn w a.A a.n a.vs := StrsIn.of_own h.row h.len h.txt
theorem RowOk.keep {w w' : World} {base : Nat} {a : At7} {bs : List Nat} (h : RowOk w base a) (hk : Keeps bs w w') (hb : ∀ b, a.val.ownBlock = some b → b ∉ bs) : RowOk w' base a := ⟨own_keep h.row hk hb, h.len, h.txt, h.name⟩
theorem RowOk.blk {w : World} {base : Nat} {a : At7} (h : RowOk w base a) (hn : 0 < a.n) : ∃ g, a.val.ownBlock = some g ∧ base ≤ g ∧ g < w.heap.size ∧ ∃ cs, w.heap[g]? = some (.cells cs 9 (0, 0)) := by
  rcases h.row.2 with ⟨_, h2⟩ | ⟨g, cap, cur, hA, hg, hh, r⟩
  · exfalso; omega
  · refine ⟨g, ?_, hg, lt_of_heap hh, cur, hh⟩
    show (Value.slice a.A a.n a.c).ownBlock = some g
    rw [hA]
    rfl

/-- A table: a map, whose Values lie in rows of the call's own, each apart from all others. -/
structure TabI (w : World) (b base : Nat) (T : List At7) : Prop where
  map : VAt w b (vt T)
  ge : base ≤ b
  rows : ∀ a ∈ T, RowOk w base a ∧ 0 < a.n
  apart : ∀ a ∈ T, ∀ a' ∈ T, a.name ≠ a'.name → a.val.ownBlock ≠ a'.val.ownBlock

def aget (T : List At7) (k : Txt) : Option At7 := T.find? fun a => a.name == k
def adel (T : List At7) (k : Txt) : List At7 := T.filter fun a => !(a.name == k)
def ains (x : At7) : List At7 → List At7
  | [] => [x]
  | y :: r => if bytesBefore x.name y.name then x :: y :: r else y :: ains x r
def aput (T : List At7) (x : At7) : List At7 := ains x (adel T x.name)
theorem vt_ins (x : At7) : ∀ T : List At7, vt (ains x T) = vins (x.name, x.val) (vt T)
  | [] => rfl
  | y :: r => by
    simp only [ains, vt, List.map_cons, vins]
    split
    · rfl
    · have := vt_ins x r
      simp only [vt] at this
      rw [List.map_cons, this]
theorem vt_del (T : List At7) (k : Txt) : vt (adel T k) = vdel (vt T) k := by
  unfold vt adel vdel
  rw [List.filter_map]
  rfl
theorem vt_put (T : List At7) (x : At7) : vt (aput T x) = vput (vt T) x.name x.val := by unfold aput vput; rw [vt_ins, vt_del]
theorem vt_val (T : List At7) (k : Txt) : vval (vt T) k = ((aget T k).map At7.val).getD (.slice none 0 0) := by
  unfold vval vget vt aget
  rw [List.find?_map]
  cases h : List.find? ((fun p => p.1 == k) ∘ fun a : At7 => (a.name, a.val)) T with
  | none =>
    have : List.find? (fun a : At7 => a.name == k) T = none := h
    rw [this]
    rfl
  | some a =>
    have : List.find? (fun a : At7 => a.name == k) T = some a := h
    rw [this]
    rfl
theorem ains_mem {x a : At7} : ∀ {T : List At7}, a ∈ ains x T ↔ a = x ∨ a ∈ T
  | [] => by simp [ains]
  | y :: r => by
    unfold ains
    split
    · simp
    · simp only [List.mem_cons, ains_mem (T := r)]
      constructor
      · rintro (h | h | h)
        · exact .inr (.inl h)
        · exact .inl h
        · exact .inr (.inr h)
      · rintro (h | h | h)
        · exact .inr (.inl h)
        · exact .inl h
        · exact .inr (.inr h)
theorem aput_mem {T : List At7} {x a : At7} : a ∈ aput T x ↔ a = x ∨ (a ∈ T ∧ a.name ≠ x.name) := by
  unfold aput adel
  rw [ains_mem, List.mem_filter]
  simp
theorem adel_mem {T : List At7} {k : Txt} {a : At7} : a ∈ adel T k ↔ a ∈ T ∧ a.name ≠ k := by
  unfold adel
  rw [List.mem_filter]
  simp
theorem aget_mem {T : List At7} {k : Txt} {a : At7} (h : aget T k = some a) : a ∈ T ∧ a.name = k := by
  unfold aget at h
  exact ⟨List.mem_of_find?_eq_some h, by simpa using List.find?_some h⟩
theorem aget_none {T : List At7} {k : Txt} (h : aget T k = none) : ∀ a ∈ T, a.name ≠ k := by
  unfold aget at h
  rw [List.find?_eq_none] at h
  intro a ha e
  exact h a ha (by simp [e])
theorem TabI.rise {w : World} {b base : Nat} {T : List At7} (h : TabI w b base T) : T.Pairwise fun a a' => a.name < a'.name := by
  have := h.map.rising
  unfold RisingV vt at this
  rw [List.pairwise_map] at this
  exact this.imp fun {a a'} haa => before_lt _ _ haa
theorem TabI.keep {w w' : World} {b base : Nat} {T : List At7} {bs : List Nat} (h : TabI w b base T) (hk : Keeps bs w w') (hb : ∀ x ∈ bs, x < base) : TabI w' b base T :=
  ⟨h.map.keep hk (fun hm => by have := hb b hm; have := h.ge; omega), h.ge, fun a ha => ⟨(h.rows a ha).1.keep hk (fun g hg hm => by
    have h1 := hb g hm
    have h2 := ((h.rows a ha).1.row.lt g hg).1
    omega), (h.rows a ha).2⟩, h.apart⟩
theorem TabI.made (w : World) (base : Nat) (h : base ≤ w.heap.size) : TabI (w.alloc (.map #[] 0)) w.heap.size base [] :=
  ⟨VAt.made w, h, by simp, by simp⟩
end Go.Proofs.YtmgkejgmkfeccaaGreatDoor
