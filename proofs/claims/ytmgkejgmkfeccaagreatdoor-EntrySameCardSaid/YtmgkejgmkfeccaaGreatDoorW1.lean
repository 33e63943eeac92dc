
/- Maps from texts to values, told as rising lists; what is looked up, written, deleted. -/
import Derived.Maps.Ext
import Derived.StringKeys
import Derived.Maps.OwnSet
import Derived.Maps.RangeWalk
import Derived.Maps.StringElems
import Derived.Test.YtmgkejgmkfeccaaGreatDoorV7
namespace Go.Proofs.YtmgkejgmkfeccaaGreatDoor
open Go.RowKit Go.Maps Go.ChangeMaps Go.MapKept
set_option linter.unusedVariables false
set_option linter.unusedSimpArgs false

abbrev VT := List (Txt × Value)
def vins (x : Txt × Value) : VT → VT
  | [] => [x]
  | y :: r => if bytesBefore x.1 y.1 then x :: y :: r else y :: vins x r
def vdel (T : VT) (k : Txt) : VT := T.filter fun p => !(p.1 == k)
def vput (T : VT) (k : Txt) (v : Value) : VT := vins (k, v) (vdel T k)
def vget (T : VT) (k : Txt) : Option Value := (T.find? fun p => p.1 == k).map fun p => p.2
def vval (T : VT) (k : Txt) : Value := (vget T k).getD (.slice none 0 0)
def RisingV (T : VT) : Prop := T.Pairwise fun p q => bytesBefore p.1 q.1 = true
def entV (p : Txt × Value) : Lit × DataW Value := (.string p.1, .held p.2)
def datV (T : VT) : DataW Value := .map (T.map entV)
theorem insert_entV (x : Txt × Value) : ∀ T : VT, DataW.insert (entV x) (T.map entV) = (vins x T).map entV
  | [] => rfl
  | y :: r => by
    simp only [List.map_cons, DataW.insert, vins]
    have h : (entV x).1.before (entV y).1 = bytesBefore x.1 y.1 := rfl
    rw [h]
    split
    · rfl
    · rw [List.map_cons, insert_entV x r]
theorem filter_entV (k : Txt) (T : VT) : (T.map entV).filter (fun p => !p.1.sameKey (.string k)) = (vdel T k).map entV := by
  unfold vdel
  rw [List.filter_map]
  rfl
theorem put_datV (T : VT) (k : Txt) (v : Value) : (datV T).put (.string k) (.held v) = datV (vput T k v) := by
  simp only [datV, DataW.put, filter_entV]
  rw [show ((Lit.string k, DataW.held v) : Lit × DataW Value) = entV (k, v) from rfl, insert_entV]
  rfl
theorem del_datV (T : VT) (k : Txt) : (datV T).del (.string k) = datV (vdel T k) := by
  simp only [datV, DataW.del, filter_entV]
theorem find_entV (k : Txt) : ∀ T : VT, (T.map entV).find? (fun p => p.1.sameKey (.string k)) = (T.find? fun p => p.1 == k).map entV
  | [] => rfl
  | y :: r => by
    simp only [List.map_cons, List.find?_cons]
    have h : (entV y).1.sameKey (.string k) = (y.1 == k) := rfl
    rw [h]
    cases y.1 == k
    · exact find_entV k r
    · rfl
theorem at_datV (T : VT) (k : Txt) : (datV T).atKey (.string k) (.held (.slice none 0 0)) = .held (vval T k) := by
  simp only [datV, DataW.atKey, find_entV, vval, vget]
  cases T.find? (fun p => p.1 == k) <;> rfl
theorem size_datV (T : VT) : Maps.size (datV T) = T.length := by simp [datV, Maps.size]

/-- How an element reads: as itself. -/
def heldElem (v : Value) : Option (DataW Value × List MemPlace) := some (.held v, [])
theorem heldElem_inv {v : Value} {y : DataW Value × List MemPlace} (h : heldElem v = some y) : y = (.held v, []) := by
  unfold heldElem at h
  injection h with h
  exact h.symm

theorem vlaw : Keyed Tryz.prog 9 := string_keyed Tryz.underlying9
theorem vkey {x : Txt} (h : x.length ≤ maxLen) : keyOf Tryz.prog 9 (.string ⟨x.toArray⟩) = some (.string x) := by
  have := WideMaps.keyOf_string_mk (P := Tryz.prog) (k := 9) Tryz.underlying9 (s := ⟨x.toArray⟩) (by simpa [ByteArray.size] using h)
  simpa using this
theorem vzero (w : World) : (zeroValue 40).run Tryz.prog w = .ok (.slice none 0 0) w := Tryz.zeroValue40 w

/-- A block is a map with such entries. -/
def VAt (w : World) (b : Nat) (T : VT) : Prop := w.ownsMap Tryz.prog 9 heldElem b T.length (datV T)
theorem VAt.of {w : World} {b n : Nat} {T : VT} (h : w.ownsMap Tryz.prog 9 heldElem b n (datV T)) : VAt w b T := by
  obtain ⟨es, clock, hb, F, hs, hD⟩ := h
  refine ⟨es, clock, hb, F, ?_, hD⟩
  have h1 := congrArg Maps.size hD
  rw [size_datV] at h1
  simp [Maps.size, length_sorted] at h1
  omega
theorem VAt.keep {w w' : World} {b : Nat} {T : VT} {bs : List Nat} (h : VAt w b T) (hk : Keeps bs w w') (hb : b ∉ bs) : VAt w' b T := by
  have hl := h.lt
  obtain ⟨es, clock, h1, h2⟩ := h
  exact ⟨es, clock, (hk.block b hl hb).trans h1, h2⟩
theorem VAt.lt' {w : World} {b : Nat} {T : VT} (h : VAt w b T) : b < w.heap.size := World.ownsMap.lt h
theorem VAt.notcells {w : World} {b : Nat} {T : VT} (h : VAt w b T) {cs : Array Value} {t : TypeId} {f : Nat × Nat} (hb : w.heap[b]? = some (.cells cs t f)) : False := by
  obtain ⟨es, clock, h1, _⟩ := h
  rw [h1] at hb
  cases hb

/-- What a look-up answers. -/
theorem run_vlook {w : World} {b : Nat} {T : VT} (hm : VAt w b T) (t : TypeId) (ht : Tryz.prog.underlying t = some (.map 9 40)) (k : Txt) (hk : k.length ≤ maxLen) :
    (Instr.lookup t (.map (some b)) (.string ⟨k.toArray⟩) false).run Tryz.prog w = .ok (vval T k) w := by
  have hz : heldElem (.slice none 0 0) = some (.held (.slice none 0 0), []) := rfl
  obtain ⟨v, ps, h1, h2⟩ := World.ownsMap.lookup hm vlaw ht (vzero w) hz (vkey hk)
  rw [at_datV] at h2
  simp only [heldElem, Option.some.injEq, Prod.mk.injEq, DataW.held.injEq] at h2
  rw [← h2.1]
  exact h1
theorem run_vlen {w : World} {b : Nat} {T : VT} (h : VAt w b T) (t : TypeId) (ht : Tryz.prog.underlying t = some (.map 9 40)) (ty : TypeId) : (Builtin.len_ #[t] ty #[.map (some b)]).run Tryz.prog w = .ok (.int .i64 (T.length : Nat)) w := by
  have := World.ownsMap.len h ht ty
  rwa [size_datV] at this
/-- What a write leaves. -/
theorem run_vput {w : World} {b : Nat} {T : VT} (h : VAt w b T) (t : TypeId) (ht : Tryz.prog.underlying t = some (.map 9 40)) (k : Txt) (v : Value) (hk : k.length ≤ maxLen) (hT : T.length < maxLen) :
    ∃ w', (Instr.mapUpdate t (.map (some b)) (.string ⟨k.toArray⟩) v).run Tryz.prog w = .ok () w' ∧ VAt w' b (vput T k v) ∧ Keeps [b] w w' ∧ w'.heap.size = w.heap.size := by
  obtain ⟨w', h1, h2, h3⟩ := World.ownsMap.store h vlaw ht hT (vkey hk) (show heldElem v = some (.held v, []) from rfl)
  refine ⟨w', h1, VAt.of (by rw [← put_datV]; simpa using h2), Keeps.of_grown h3.grown (fun x hx => .inl (by simpa using hx.symm)), ?_⟩
  obtain ⟨es, clock, es', clock', _, rfl⟩ := h3
  simp [setBlock]
theorem run_vdel {w : World} {b : Nat} {T : VT} (h : VAt w b T) (t : TypeId) (ht : Tryz.prog.underlying t = some (.map 9 40)) (k : Txt) (hk : k.length ≤ maxLen) (ty : TypeId) :
    ∃ w', (Builtin.delete_ #[t, 9] ty #[.map (some b), .string ⟨k.toArray⟩]).run Tryz.prog w = .ok (.tuple #[]) w' ∧ VAt w' b (vdel T k) ∧ Keeps [b] w w' ∧ w'.heap.size = w.heap.size := by
  obtain ⟨w', h1, h2, h3⟩ := World.ownsMap.drop h vlaw ht (vkey hk) ty
  refine ⟨w', h1, VAt.of (by rw [← del_datV]; exact h2), Keeps.of_grown h3.grown (fun x hx => .inl (by simpa using hx.symm)), ?_⟩
  obtain ⟨es, clock, es', clock', _, rfl⟩ := h3
  simp [setBlock]
/-- A new map has no entries. -/
theorem VAt.made (w : World) : VAt (w.alloc (.map #[] 0)) w.heap.size [] := World.ownsMap_made w Tryz.prog 9 heldElem
theorem VAt.rising {w : World} {b : Nat} {T : VT} (h : VAt w b T) : RisingV T := by
  obtain ⟨es, he, hs, hk⟩ := World.ownsMap.canon h vlaw
  unfold datV at he
  injection he with he
  subst he
  unfold RisingV
  rw [List.pairwise_map] at hs
  exact hs
theorem before_lt : ∀ a b : Txt, bytesBefore a b = true → a < b
  | [], [], h => by cases h
  | [], b :: s, _ => List.nil_lt_cons b s
  | a :: r, [], h => by cases h
  | a :: r, b :: s, h => by
    simp only [bytesBefore, Bool.or_eq_true, Bool.and_eq_true, decide_eq_true_eq, beq_iff_eq] at h
    rw [List.cons_lt_cons_iff]
    rcases h with h | ⟨h, h3⟩
    · exact .inl h
    · exact .inr ⟨h, before_lt r s h3⟩
end Go.Proofs.YtmgkejgmkfeccaaGreatDoor
