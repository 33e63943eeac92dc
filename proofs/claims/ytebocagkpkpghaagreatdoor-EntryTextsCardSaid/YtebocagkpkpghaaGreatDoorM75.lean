/- Texts of one proof, laid together: W1 W2 W3. -/
import Derived.Maps.Ext
import Derived.StringKeys
import Derived.Maps.OwnSet
import Derived.Maps.RangeWalk
import Derived.Maps.StringElems
import Derived.Test.YtebocagkpkpghaaGreatDoorM72
import Derived.Test.YtebocagkpkpghaaGreatDoorM71
/- Maps from texts to values, told as rising lists; what is looked up, written, deleted. -/
namespace Go.Proofs.YtebocagkpkpghaaGreatDoor
open Go.RowKit Go.Maps Go.ChangeMaps Go.MapKept
set_option linter.unusedVariables false
set_option linter.unusedSimpArgs false

abbrev VT := List (Txt × Value)
def vins (x : Txt × Value) : VT → VT
  | [] => [x]
  | y :: r => if bytesBefore x.1 y.1 then x :: y :: r else y :: vins x r
def vdel (T : VT) (k : Txt) : VT := T.filter fun p => !(p.1 == k)
def vput (T : VT) (k : Txt) (v : Value) : VT := vins (k, v) (vdel T k)
def vget (T : VT) (k : Txt) : Option Value := (T.find? fun p => p.1 == k).map fun p => p.2
def vval (T : VT) (k : Txt) : Value := (vget T k).getD (.slice none 0 0)
def RisingV (T : VT) : Prop := T.Pairwise fun p q => bytesBefore p.1 q.1 = true
def entV (p : Txt × Value) : Lit × DataW Value := (.string p.1, .held p.2)
def datV (T : VT) : DataW Value := .map (T.map entV)
theorem insert_entV (x : Txt × Value) : ∀ T : VT, DataW.insert (entV x) (T.map entV) = (vins x T).map entV
  | [] => rfl
  | y :: r => by
    simp only [List.map_cons, DataW.insert, vins]
    have h : (entV x).1.before (entV y).1 = bytesBefore x.1 y.1 := rfl
    rw [h]
    split
    · rfl
    · rw [List.map_cons, insert_entV x r]
theorem filter_entV (k : Txt) (T : VT) : (T.map entV).filter (fun p => !p.1.sameKey (.string k)) = (vdel T k).map entV := by
  unfold vdel
  rw [List.filter_map]
  rfl
theorem put_datV (T : VT) (k : Txt) (v : Value) : (datV T).put (.string k) (.held v) = datV (vput T k v) := by
  simp only [datV, DataW.put, filter_entV]
  rw [show ((Lit.string k, DataW.held v) : Lit × DataW Value) = entV (k, v) from rfl, insert_entV]
  rfl
theorem del_datV (T : VT) (k : Txt) : (datV T).del (.string k) = datV (vdel T k) := by
  simp only [datV, DataW.del, filter_entV]
theorem find_entV (k : Txt) : ∀ T : VT, (T.map entV).find? (fun p => p.1.sameKey (.string k)) = (T.find? fun p => p.1 == k).map entV
  | [] => rfl
  | y :: r => by
    simp only [List.map_cons, List.find?_cons]
    have h : (entV y).1.sameKey (.string k) = (y.1 == k) := rfl
    rw [h]
    cases y.1 == k
    · exact find_entV k r
    · rfl
theorem at_datV (T : VT) (k : Txt) : (datV T).atKey (.string k) (.held (.slice none 0 0)) = .held (vval T k) := by
  simp only [datV, DataW.atKey, find_entV, vval, vget]
  cases T.find? (fun p => p.1 == k) <;> rfl
theorem size_datV (T : VT) : Maps.size (datV T) = T.length := by simp [datV, Maps.size]

/-- How an element reads: as itself. -/
def heldElem (v : Value) : Option (DataW Value × List MemPlace) := some (.held v, [])
theorem heldElem_inv {v : Value} {y : DataW Value × List MemPlace} (h : heldElem v = some y) : y = (.held v, []) := by
  unfold heldElem at h
  injection h with h
  exact h.symm

theorem vlaw : Keyed Tryz.prog 9 := string_keyed Tryz.underlying9
theorem vkey {x : Txt} (h : x.length ≤ maxLen) : keyOf Tryz.prog 9 (.string ⟨x.toArray⟩) = some (.string x) := by
  have := WideMaps.keyOf_string_mk (P := Tryz.prog) (k := 9) Tryz.underlying9 (s := ⟨x.toArray⟩) (by simpa [ByteArray.size] using h)
  simpa using this
theorem vzero (w : World) : (zeroValue 40).run Tryz.prog w = .ok (.slice none 0 0) w := Tryz.zeroValue40 w

/-- A block is a map with such entries. -/
def VAt (w : World) (b : Nat) (T : VT) : Prop := w.ownsMap Tryz.prog 9 heldElem b T.length (datV T)
theorem VAt.of {w : World} {b n : Nat} {T : VT} (h : w.ownsMap Tryz.prog 9 heldElem b n (datV T)) : VAt w b T := by
  obtain ⟨es, clock, hb, F, hs, hD⟩ := h
  refine ⟨es, clock, hb, F, ?_, hD⟩
  have h1 := congrArg Maps.size hD
  rw [size_datV] at h1
  simp [Maps.size, length_sorted] at h1
  omega
theorem VAt.keep {w w' : World} {b : Nat} {T : VT} {bs : List Nat} (h : VAt w b T) (hk : Keeps bs w w') (hb : b ∉ bs) : VAt w' b T := by
  have hl := h.lt
  obtain ⟨es, clock, h1, h2⟩ := h
  exact ⟨es, clock, (hk.block b hl hb).trans h1, h2⟩
theorem VAt.lt' {w : World} {b : Nat} {T : VT} (h : VAt w b T) : b < w.heap.size := World.ownsMap.lt h
theorem VAt.notcells {w : World} {b : Nat} {T : VT} (h : VAt w b T) {cs : Array Value} {t : TypeId} {f : Nat × Nat} (hb : w.heap[b]? = some (.cells cs t f)) : False := by
  obtain ⟨es, clock, h1, _⟩ := h
  rw [h1] at hb
  cases hb

/-- What a look-up answers. -/
theorem run_vlook {w : World} {b : Nat} {T : VT} (hm : VAt w b T) (t : TypeId) (ht : Tryz.prog.underlying t = some (.map 9 40)) (k : Txt) (hk : k.length ≤ maxLen) :
    (Instr.lookup t (.map (some b)) (.string ⟨k.toArray⟩) false).run Tryz.prog w = .ok (vval T k) w := by
  have hz : heldElem (.slice none 0 0) = some (.held (.slice none 0 0), []) := rfl
  obtain ⟨v, ps, h1, h2⟩ := World.ownsMap.lookup hm vlaw ht (vzero w) hz (vkey hk)
  rw [at_datV] at h2
  simp only [heldElem, Option.some.injEq, Prod.mk.injEq, DataW.held.injEq] at h2
  rw [← h2.1]
  exact h1
theorem run_vlen {w : World} {b : Nat} {T : VT} (h : VAt w b T) (t : TypeId) (ht : Tryz.prog.underlying t = some (.map 9 40)) (ty : TypeId) : (Builtin.len_ #[t] ty #[.map (some b)]).run Tryz.prog w = .ok (.int .i64 (T.length : Nat)) w := by
  have := World.ownsMap.len h ht ty
  rwa [size_datV] at this
/-- What a write leaves. -/
theorem run_vput {w : World} {b : Nat} {T : VT} (h : VAt w b T) (t : TypeId) (ht : Tryz.prog.underlying t = some (.map 9 40)) (k : Txt) (v : Value) (hk : k.length ≤ maxLen) (hT : T.length < maxLen) :
    ∃ w', (Instr.mapUpdate t (.map (some b)) (.string ⟨k.toArray⟩) v).run Tryz.prog w = .ok () w' ∧ VAt w' b (vput T k v) ∧ Keeps [b] w w' ∧ w'.heap.size = w.heap.size := by
  obtain ⟨w', h1, h2, h3⟩ := World.ownsMap.store h vlaw ht hT (vkey hk) (show heldElem v = some (.held v, []) from rfl)
  refine ⟨w', h1, VAt.of (by rw [← put_datV]; simpa using h2), Keeps.of_grown h3.grown (fun x hx => .inl (by simpa using hx.symm)), ?_⟩
  obtain ⟨es, clock, es', clock', _, rfl⟩ := h3
  simp [setBlock]
theorem run_vdel {w : World} {b : Nat} {T : VT} (h : VAt w b T) (t : TypeId) (ht : Tryz.prog.underlying t = some (.map 9 40)) (k : Txt) (hk : k.length ≤ maxLen) (ty : TypeId) :
    ∃ w', (Builtin.delete_ #[t, 9] ty #[.map (some b), .string ⟨k.toArray⟩]).run Tryz.prog w = .ok (.tuple #[]) w' ∧ VAt w' b (vdel T k) ∧ Keeps [b] w w' ∧ w'.heap.size = w.heap.size := by
  obtain ⟨w', h1, h2, h3⟩ := World.ownsMap.drop h vlaw ht (vkey hk) ty
  refine ⟨w', h1, VAt.of (by rw [← del_datV]; exact h2), Keeps.of_grown h3.grown (fun x hx => .inl (by simpa using hx.symm)), ?_⟩
  obtain ⟨es, clock, es', clock', _, rfl⟩ := h3
  simp [setBlock]
/-- A new map has no entries. -/
theorem VAt.made (w : World) : VAt (w.alloc (.map #[] 0)) w.heap.size [] := World.ownsMap_made w Tryz.prog 9 heldElem
theorem VAt.rising {w : World} {b : Nat} {T : VT} (h : VAt w b T) : RisingV T := by
  obtain ⟨es, he, hs, hk⟩ := World.ownsMap.canon h vlaw
  unfold datV at he
  injection he with he
  subst he
  unfold RisingV
  rw [List.pairwise_map] at hs
  exact hs
theorem before_lt : ∀ a b : Txt, bytesBefore a b = true → a < b
  | [], [], h => by cases h
  | [], b :: s, _ => List.nil_lt_cons b s
  | a :: r, [], h => by cases h
  | a :: r, b :: s, h => by
    simp only [bytesBefore, Bool.or_eq_true, Bool.and_eq_true, decide_eq_true_eq, beq_iff_eq] at h
    rw [List.cons_lt_cons_iff]
    rcases h with h | ⟨h, h3⟩
    · exact .inl h
    · exact .inr ⟨h, before_lt r s h3⟩
end Go.Proofs.YtebocagkpkpghaaGreatDoor
/- entry: a table in memory: its map, and the Values' rows. -/
namespace Go.Proofs.YtebocagkpkpghaaGreatDoor
open Go.RowKit Go.Maps Go.ChangeMaps Go.MapKept
set_option linter.unusedVariables false
set_option linter.unusedSimpArgs false
set_option maxRecDepth 100000

def At7.val (a : At7) : Value := .slice a.A a.n a.c
def vt (T : List At7) : VT := T.map fun a => (a.name, a.val)
/-- An attribute whose Values lie in a row of the call's own. -/
structure RowOk (w : World) (base : Nat) (a : At7) : Prop where
  row : w.ownsRow base 9 1 (.slice a.A a.n a.c) a.n (a.vs.map tv)
  len : a.vs.length = a.n
  txt : ∀ s ∈ a.vs, s.length ≤ 9223372036854775807
  name : a.name.length ≤ 9223372036854775807
theorem RowOk.strs {w : World} {base : Nat} {a : At7} (h : RowOk w base a) : StrsIn w a.A a.n a.vs := StrsIn.of_own h.row h.len h.txt
theorem RowOk.keep {w w' : World} {base : Nat} {a : At7} {bs : List Nat} (h : RowOk w base a) (hk : Keeps bs w w') (hb : ∀ b, a.val.ownBlock = some b → b ∉ bs) : RowOk w' base a := ⟨own_keep h.row hk hb, h.len, h.txt, h.name⟩
theorem RowOk.blk {w : World} {base : Nat} {a : At7} (h : RowOk w base a) (hn : 0 < a.n) : ∃ g, a.val.ownBlock = some g ∧ base ≤ g ∧ g < w.heap.size ∧ ∃ cs, w.heap[g]? = some (.cells cs 9 (0, 0)) := by
  rcases h.row.2 with ⟨_, h2⟩ | ⟨g, cap, cur, hA, hg, hh, r⟩
  · exfalso; omega
  · refine ⟨g, ?_, hg, lt_of_heap hh, cur, hh⟩
    show (Value.slice a.A a.n a.c).ownBlock = some g
    rw [hA]
    rfl

/-- A table: a map, whose Values lie in rows of the call's own, each apart from all others. -/
structure TabI (w : World) (b base : Nat) (T : List At7) : Prop where
  map : VAt w b (vt T)
  ge : base ≤ b
  rows : ∀ a ∈ T, RowOk w base a ∧ 0 < a.n
  apart : ∀ a ∈ T, ∀ a' ∈ T, a.name ≠ a'.name → a.val.ownBlock ≠ a'.val.ownBlock

def aget (T : List At7) (k : Txt) : Option At7 := T.find? fun a => a.name == k
def adel (T : List At7) (k : Txt) : List At7 := T.filter fun a => !(a.name == k)
def ains (x : At7) : List At7 → List At7
  | [] => [x]
  | y :: r => if bytesBefore x.name y.name then x :: y :: r else y :: ains x r
def aput (T : List At7) (x : At7) : List At7 := ains x (adel T x.name)
theorem vt_ins (x : At7) : ∀ T : List At7, vt (ains x T) = vins (x.name, x.val) (vt T)
  | [] => rfl
  | y :: r => by
    simp only [ains, vt, List.map_cons, vins]
    split
    · rfl
    · have := vt_ins x r
      simp only [vt] at this
      rw [List.map_cons, this]
theorem vt_del (T : List At7) (k : Txt) : vt (adel T k) = vdel (vt T) k := by
  unfold vt adel vdel
  rw [List.filter_map]
  rfl
theorem vt_put (T : List At7) (x : At7) : vt (aput T x) = vput (vt T) x.name x.val := by unfold aput vput; rw [vt_ins, vt_del]
theorem vt_val (T : List At7) (k : Txt) : vval (vt T) k = ((aget T k).map At7.val).getD (.slice none 0 0) := by
  unfold vval vget vt aget
  rw [List.find?_map]
  cases h : List.find? ((fun p => p.1 == k) ∘ fun a : At7 => (a.name, a.val)) T with
  | none =>
    have : List.find? (fun a : At7 => a.name == k) T = none := h
    rw [this]
    rfl
  | some a =>
    have : List.find? (fun a : At7 => a.name == k) T = some a := h
    rw [this]
    rfl
theorem ains_mem {x a : At7} : ∀ {T : List At7}, a ∈ ains x T ↔ a = x ∨ a ∈ T
  | [] => by simp [ains]
  | y :: r => by
    unfold ains
    split
    · simp
    · simp only [List.mem_cons, ains_mem (T := r)]
      constructor
      · rintro (h | h | h)
        · exact .inr (.inl h)
        · exact .inl h
        · exact .inr (.inr h)
      · rintro (h | h | h)
        · exact .inr (.inl h)
        · exact .inl h
        · exact .inr (.inr h)
theorem aput_mem {T : List At7} {x a : At7} : a ∈ aput T x ↔ a = x ∨ (a ∈ T ∧ a.name ≠ x.name) := by
  unfold aput adel
  rw [ains_mem, List.mem_filter]
  simp
theorem adel_mem {T : List At7} {k : Txt} {a : At7} : a ∈ adel T k ↔ a ∈ T ∧ a.name ≠ k := by
  unfold adel
  rw [List.mem_filter]
  simp
theorem aget_mem {T : List At7} {k : Txt} {a : At7} (h : aget T k = some a) : a ∈ T ∧ a.name = k := by
  unfold aget at h
  exact ⟨List.mem_of_find?_eq_some h, by simpa using List.find?_some h⟩
theorem aget_none {T : List At7} {k : Txt} (h : aget T k = none) : ∀ a ∈ T, a.name ≠ k := by
  unfold aget at h
  rw [List.find?_eq_none] at h
  intro a ha e
  exact h a ha (by simp [e])
theorem TabI.rise {w : World} {b base : Nat} {T : List At7} (h : TabI w b base T) : T.Pairwise fun a a' => a.name < a'.name := by
  have := h.map.rising
  unfold RisingV vt at this
  rw [List.pairwise_map] at this
  exact this.imp fun {a a'} haa => before_lt _ _ haa
theorem TabI.keep {w w' : World} {b base : Nat} {T : List At7} {bs : List Nat} (h : TabI w b base T) (hk : Keeps bs w w') (hb : ∀ x ∈ bs, x < base) : TabI w' b base T :=
  ⟨h.map.keep hk (fun hm => by have := hb b hm; have := h.ge; omega), h.ge, fun a ha => ⟨(h.rows a ha).1.keep hk (fun g hg hm => by
    have h1 := hb g hm
    have h2 := ((h.rows a ha).1.row.lt g hg).1
    omega), (h.rows a ha).2⟩, h.apart⟩
theorem TabI.made (w : World) (base : Nat) (h : base ≤ w.heap.size) : TabI (w.alloc (.map #[] 0)) w.heap.size base [] :=
  ⟨VAt.made w, h, by simp, by simp⟩
end Go.Proofs.YtebocagkpkpghaaGreatDoor
/- entry: put; walked. -/
namespace Go.Proofs.YtebocagkpkpghaaGreatDoor
open Go.RowKit Go.Maps Go.ChangeMaps Go.MapKept
set_option linter.unusedVariables false
set_option linter.unusedSimpArgs false
set_option maxRecDepth 100000

/-- A table, but for what lies at one name. -/
structure TabX (w : World) (b base : Nat) (T : List At7) (k : Txt) : Prop where
  map : VAt w b (vt T)
  ge : base ≤ b
  rows : ∀ a ∈ T, a.name ≠ k → RowOk w base a ∧ 0 < a.n
  apart : ∀ a ∈ T, ∀ a' ∈ T, a.name ≠ k → a'.name ≠ k → a.name ≠ a'.name → a.val.ownBlock ≠ a'.val.ownBlock
theorem TabI.but {w : World} {b base : Nat} {T : List At7} (h : TabI w b base T) (k : Txt) : TabX w b base T k := ⟨h.map, h.ge, fun a ha _ => h.rows a ha, fun a ha a' ha' _ _ hd => h.apart a ha a' ha' hd⟩
theorem TabX.put {w w' : World} {b base : Nat} {T : List At7} {x : At7} (h : TabX w b base T x.name) (hv : VAt w' b (vput (vt T) x.name x.val)) (hk : Keeps [b] w w') (hx : RowOk w base x) (hn : 0 < x.n) (ha : ∀ a ∈ T, a.name ≠ x.name → a.val.ownBlock ≠ x.val.ownBlock) : TabI w' b base (aput T x) := by
  have hne : ∀ {a : At7}, RowOk w base a → 0 < a.n → ∀ g, a.val.ownBlock = some g → g ∉ [b] := fun {a} hr hn g hg hm => by
    obtain ⟨g', h1, h2, h3, cs, h4⟩ := hr.blk hn
    rw [hg] at h1
    injection h1 with h1
    subst h1
    simp only [List.mem_singleton] at hm
    subst hm
    exact h.map.notcells h4
  refine ⟨by rw [vt_put]; exact hv, h.ge, fun a hm => ?_, fun a hm a' hm' hd => ?_⟩
  · rcases aput_mem.1 hm with e1 | ⟨m1, d1⟩
    · rw [e1]; exact ⟨hx.keep hk (hne hx hn), hn⟩
    · exact ⟨(h.rows a m1 d1).1.keep hk (hne (h.rows a m1 d1).1 (h.rows a m1 d1).2), (h.rows a m1 d1).2⟩
  · rcases aput_mem.1 hm with e1 | ⟨m1, d1⟩
    · rcases aput_mem.1 hm' with e2 | ⟨m2, d2⟩
      · rw [e1, e2] at hd; exact absurd rfl hd
      · rw [e1]; exact fun e => ha a' m2 d2 e.symm
    · rcases aput_mem.1 hm' with e2 | ⟨m2, d2⟩
      · rw [e2]; exact ha a m1 d1
      · exact h.apart a m1 a' m2 d1 d2 hd
theorem TabX.del {w w' : World} {b base : Nat} {T : List At7} {k : Txt} (h : TabX w b base T k) (hv : VAt w' b (vdel (vt T) k)) (hk : Keeps [b] w w') : TabI w' b base (adel T k) := by
  refine ⟨by rw [vt_del]; exact hv, h.ge, fun a hm => ?_, fun a hm a' hm' hd => h.apart a (adel_mem.1 hm).1 a' (adel_mem.1 hm').1 (adel_mem.1 hm).2 (adel_mem.1 hm').2 hd⟩
  obtain ⟨m1, d1⟩ := adel_mem.1 hm
  refine ⟨(h.rows a m1 d1).1.keep hk (fun g hg hmm => ?_), (h.rows a m1 d1).2⟩
  obtain ⟨g', h1, h2, h3, cs, h4⟩ := (h.rows a m1 d1).1.blk (h.rows a m1 d1).2
  rw [hg] at h1
  injection h1 with h1
  subst h1
  simp only [List.mem_singleton] at hmm
  subst hmm
  exact h.map.notcells h4
theorem vt_len (T : List At7) : (vt T).length = T.length := by simp [vt]

theorem put_some (b base : Nat) (T : List At7) (x : At7) (w : World) (h : TabX w b base T x.name) (hx : RowOk w base x) (hn : 0 < x.n) (ha : ∀ a ∈ T, a.name ≠ x.name → a.val.ownBlock ≠ x.val.ownBlock) (hT : T.length ≤ 100000) :
    Calls Tryz.prog 64 #[.map (some b), tv x.name, .slice x.A x.n x.c] w fun e w' => (∃ v, e = .returned v) ∧ TabI w' b base (aput T x) ∧ Keeps [b] w w' := by
  obtain ⟨w2, hrun, hv, hk, hz⟩ := run_vput h.map 63 Tryz.underlying63 x.name x.val (by have := hx.name; unfold maxLen; omega) (by rw [vt_len]; unfold maxLen; omega)
  have HT := Lib.hid (h.put hv hk hx hn ha)
  have HK := Lib.hid hk
  obtain ⟨nm, aA, an, ac, avs⟩ := x
  unfold At7.val at hrun
  dsimp only at hrun hn
  unfold tv
  dsimp only
  have hg : ¬ (an : Int) = 0 := by omega
  have hgb : ((an : Int) == 0) = false := by simp; omega
  clear h hx ha hv hk hz hn
  go_enter Tryz.func64, Tryz.ntmps64
  go_wp2_with fail
  go_end0
  exact ⟨⟨_, rfl⟩, HT.out, HK.out⟩
theorem put_none (b base : Nat) (T : List At7) (name : Txt) (A : Option Addr) (c : Nat) (w : World) (h : TabX w b base T name) (hn : name.length ≤ 9223372036854775807) :
    Calls Tryz.prog 64 #[.map (some b), tv name, .slice A 0 c] w fun e w' => (∃ v, e = .returned v) ∧ TabI w' b base (adel T name) ∧ Keeps [b] w w' := by
  obtain ⟨w2, hrun, hv, hk, hz⟩ := run_vdel h.map 63 Tryz.underlying63 name (by unfold maxLen; omega) 0
  have HT := Lib.hid (h.del hv hk)
  have HK := Lib.hid hk
  unfold tv
  clear h hn hv hk hz
  go_enter Tryz.func64, Tryz.ntmps64
  go_wp2_with fail
  refine bodyPost_ret (results_none rfl _ _ _) rfl ?_
  exact ⟨⟨_, rfl⟩, HT.out, HK.out⟩
theorem rise_eq : ∀ {T : List At7}, (T.Pairwise fun a a' => a.name < a'.name) → ∀ a ∈ T, ∀ a' ∈ T, a.name = a'.name → a = a'
  | [], _, a, ha, _, _, _ => by cases ha
  | y :: r, h, a, ha, a', ha', he => by
    have h' := List.pairwise_cons.1 h
    rcases List.mem_cons.1 ha with e1 | m1
    · rcases List.mem_cons.1 ha' with e2 | m2
      · rw [e1, e2]
      · have := h'.1 a' m2
        rw [← e1, he] at this
        exact absurd this (tx_irr _)
    · rcases List.mem_cons.1 ha' with e2 | m2
      · have := h'.1 a m1
        rw [← e2, he] at this
        exact absurd this (tx_irr _)
      · exact rise_eq h'.2 a m1 a' m2 he
theorem aget_some {T : List At7} (h : T.Pairwise fun a a' => a.name < a'.name) {a : At7} (ha : a ∈ T) : aget T a.name = some a := by
  cases hg : aget T a.name with
  | none => exact absurd rfl (aget_none hg a ha)
  | some a' =>
    obtain ⟨h1, h2⟩ := aget_mem hg
    rw [rise_eq h a' h1 a ha h2]
/-- What a table has at a name. -/
def cont (T : List At7) (k : Txt) : List Txt := ((aget T k).map At7.vs).getD []
theorem cont_put {T : List At7} {x : At7} (h : T.Pairwise fun a a' => a.name < a'.name) (h2 : (aput T x).Pairwise fun a a' => a.name < a'.name) (k : Txt) : cont (aput T x) k = if k = x.name then x.vs else cont T k := by
  unfold cont
  by_cases hk : k = x.name
  · rw [if_pos hk, hk, aget_some h2 (aput_mem.2 (.inl rfl))]
    rfl
  · rw [if_neg hk]
    cases hg : aget T k with
    | some a =>
      obtain ⟨h3, h4⟩ := aget_mem hg
      have := aget_some h2 (aput_mem.2 (.inr ⟨h3, by rw [h4]; exact hk⟩))
      rw [h4] at this
      rw [this]
    | none =>
      cases hg2 : aget (aput T x) k with
      | none => rfl
      | some a =>
        obtain ⟨h3, h4⟩ := aget_mem hg2
        rcases aput_mem.1 h3 with e | ⟨m, _⟩
        · rw [e] at h4; exact absurd h4.symm hk
        · exact absurd h4 (aget_none hg a m)
theorem cont_del {T : List At7} {n : Txt} (h : T.Pairwise fun a a' => a.name < a'.name) (k : Txt) : cont (adel T n) k = if k = n then [] else cont T k := by
  have h2 : (adel T n).Pairwise fun a a' => a.name < a'.name := h.filter _
  unfold cont
  by_cases hk : k = n
  · rw [if_pos hk]
    cases hg : aget (adel T n) k with
    | none => rfl
    | some a =>
      obtain ⟨h3, h4⟩ := aget_mem hg
      exact absurd (h4.trans hk) (adel_mem.1 h3).2
  · rw [if_neg hk]
    cases hg : aget T k with
    | some a =>
      obtain ⟨h3, h4⟩ := aget_mem hg
      have := aget_some h2 (adel_mem.2 ⟨h3, by rw [h4]; exact hk⟩)
      rw [h4] at this
      rw [this]
    | none =>
      cases hg2 : aget (adel T n) k with
      | none => rfl
      | some a =>
        obtain ⟨h3, h4⟩ := aget_mem hg2
        exact absurd h4 (aget_none hg a (adel_mem.1 h3).1)
theorem ains_len (x : At7) : ∀ T : List At7, (ains x T).length = T.length + 1
  | [] => rfl
  | y :: r => by
    unfold ains
    split
    · rfl
    · simp [ains_len x r]
theorem aput_len (T : List At7) (x : At7) : (aput T x).length ≤ T.length + 1 := by
  unfold aput adel
  rw [ains_len]
  have := List.length_filter_le (fun a : At7 => !(a.name == x.name)) T
  omega
theorem adel_len (T : List At7) (k : Txt) : (adel T k).length ≤ T.length := by
  unfold adel
  exact List.length_filter_le _ T
end Go.Proofs.YtebocagkpkpghaaGreatDoor
