/- Texts of one proof, laid together: U1 U2 U3 U4 U5. -/
import Derived.Maps.Ext
import Derived.StringKeys
import Derived.Maps.OwnSet
import Derived.Maps.RangeWalk
import Derived.Maps.StringElems
import Derived.Test.YthgpjlmdllihmaaGreatM01
import Derived.Test.YthgpjlmdllihmaaGreatProg
import Derived.WalkKit
import Derived.Test.YthgpjlmdllihmaaGreatM07
/- Tables: lists of keys and values, rising; how one lies in memory, as a map. -/
namespace Go.Proofs.YthgpjlmdllihmaaGreat
open Go.RowKit Go.Maps
set_option linter.unusedVariables false
set_option linter.unusedSimpArgs false

abbrev Tab := List (List UInt8 × List UInt8)

def tins (x : List UInt8 × List UInt8) : Tab → Tab
  | [] => [x]
  | y :: r => if bytesBefore x.1 y.1 then x :: y :: r else y :: tins x r
def tdel (T : Tab) (k : List UInt8) : Tab := T.filter fun p => !(p.1 == k)
def tput (T : Tab) (k v : List UInt8) : Tab := tins (k, v) (tdel T k)
def tget (T : Tab) (k : List UInt8) : Option (List UInt8) := (T.find? fun p => p.1 == k).map fun p => p.2
def tval (T : Tab) (k : List UInt8) : List UInt8 := (tget T k).getD []
def thas (T : Tab) (k : List UInt8) : Bool := (tget T k).isSome
/-- How heavy a table is. -/
def tweight (T : Tab) : Nat := (T.map fun p => 16 + p.1.length + p.2.length).sum
def Rising (T : Tab) : Prop := T.Pairwise fun p q => bytesBefore p.1 q.1 = true

def entT (p : List UInt8 × List UInt8) : Lit × DataW Unit := (.string p.1, .lit (.string p.2))
def datT (T : Tab) : DataW Unit := .map (T.map entT)

theorem insert_entT (x : List UInt8 × List UInt8) : ∀ T : Tab, DataW.insert (entT x) (T.map entT) = (tins x T).map entT
  | [] => rfl
  | y :: r => by
    simp only [List.map_cons, DataW.insert, tins]
    have h : (entT x).1.before (entT y).1 = bytesBefore x.1 y.1 := rfl
    rw [h]
    split
    · rfl
    · rw [List.map_cons, insert_entT x r]

theorem filter_entT (k : List UInt8) (T : Tab) : (T.map entT).filter (fun p => !p.1.sameKey (.string k)) = (tdel T k).map entT := by
  unfold tdel
  rw [List.filter_map]
  rfl

theorem put_datT (T : Tab) (k v : List UInt8) : (datT T).put (.string k) (.lit (.string v)) = datT (tput T k v) := by
  simp only [datT, DataW.put, filter_entT]
  rw [show ((Lit.string k, DataW.lit (Lit.string v)) : Lit × DataW Unit) = entT (k, v) from rfl, insert_entT]
  rfl
theorem del_datT (T : Tab) (k : List UInt8) : (datT T).del (.string k) = datT (tdel T k) := by
  simp only [datT, DataW.del, filter_entT]

theorem find_entT (k : List UInt8) : ∀ T : Tab, (T.map entT).find? (fun p => p.1.sameKey (.string k)) = (T.find? fun p => p.1 == k).map entT
  | [] => rfl
  | y :: r => by
    simp only [List.map_cons, List.find?_cons]
    have h : (entT y).1.sameKey (.string k) = (y.1 == k) := rfl
    rw [h]
    cases y.1 == k
    · exact find_entT k r
    · rfl
theorem at_datT (T : Tab) (k : List UInt8) : (datT T).atKey (.string k) (.lit (.string [])) = .lit (.string (tval T k)) := by
  simp only [datT, DataW.atKey, find_entT, tval, tget]
  cases T.find? (fun p => p.1 == k) <;> rfl
theorem has_datT (T : Tab) (k : List UInt8) : Maps.has (datT T) (.string k) = thas T k := by
  simp only [datT, Maps.has, thas, tget]
  rw [Option.isSome_map, Bool.eq_iff_iff, List.find?_isSome]
  simp only [List.any_eq_true, List.mem_map]
  constructor
  · rintro ⟨_, ⟨p, hp, rfl⟩, h⟩; exact ⟨p, hp, h⟩
  · rintro ⟨p, hp, h⟩; exact ⟨_, ⟨p, hp, rfl⟩, h⟩
theorem size_datT (T : Tab) : Maps.size (datT T) = T.length := by simp [datT, Maps.size]

/-- How a row reads. -/
def rowElem : Value → Option (DataW Unit × List MemPlace)
  | .agg cs => match cs.toList with
    | [.string s] => if s.size ≤ maxLen then some (.lit (.string s.data.toList), []) else none
    | _ => none
  | _ => none

theorem rowElem_mk (s : ByteArray) (h : s.size ≤ maxLen) : rowElem (.agg #[.string s]) = some (.lit (.string s.data.toList), []) := by simp [rowElem, h]
theorem rowElem_inv {v : Value} {y : DataW Unit × List MemPlace} (h : rowElem v = some y) : ∃ s : ByteArray, v = .agg #[.string s] ∧ y = (.lit (.string s.data.toList), []) ∧ s.size ≤ maxLen := by
  unfold rowElem at h
  split at h
  · rename_i cs
    split at h
    · rename_i s hs
      split at h
      · rename_i hl
        injection h with h
        refine ⟨s, ?_, h.symm, hl⟩
        congr 1
        apply Array.ext'
        rw [hs]
      · cases h
    · cases h
  · cases h

end Go.Proofs.YthgpjlmdllihmaaGreat
/- A table in memory: looked up, written, gone over. -/
namespace Go.Proofs.YthgpjlmdllihmaaGreat
open Go.RowKit Go.Maps Go.ChangeMaps Go.MapKept
set_option linter.unusedVariables false
set_option linter.unusedSimpArgs false

theorem slaw : Keyed Tryz.prog 9 := string_keyed Tryz.underlying9
theorem skey {x : List UInt8} (h : x.length ≤ maxLen) : keyOf Tryz.prog 9 (.string ⟨x.toArray⟩) = some (.string x) := by
  have := WideMaps.keyOf_string_mk (P := Tryz.prog) (k := 9) Tryz.underlying9 (s := ⟨x.toArray⟩) (by simpa [ByteArray.size] using h)
  simpa using this
theorem szero (w : World) : (zeroValue 73).run Tryz.prog w = .ok (.agg #[.string ⟨#[]⟩]) w := Tryz.zeroValue73 w

/-- A block is a map with a table. -/
def MapAt (w : World) (b : Nat) (T : Tab) : Prop := w.ownsMap Tryz.prog 9 rowElem b T.length (datT T)
/-- A map value, nil or not, has a table. -/
def TabV (w : World) (m : Option Nat) (T : Tab) : Prop := match m with | none => T = [] | some b => MapAt w b T

theorem MapAt.of {w : World} {b n : Nat} {T : Tab} (h : w.ownsMap Tryz.prog 9 rowElem b n (datT T)) : MapAt w b T := by
  obtain ⟨es, clock, hb, F, hs, hD⟩ := h
  refine ⟨es, clock, hb, F, ?_, hD⟩
  have h1 := congrArg Maps.size hD
  rw [size_datT] at h1
  simp [Maps.size, length_sorted] at h1
  omega

theorem MapAt.keep {w w' : World} {b : Nat} {T : Tab} {bs : List Nat} (h : MapAt w b T) (hk : Keeps bs w w') (hb : b ∉ bs) : MapAt w' b T := by
  have hl := h.lt
  obtain ⟨es, clock, h1, h2⟩ := h
  exact ⟨es, clock, (hk.block b hl hb).trans h1, h2⟩
theorem TabV.keep {w w' : World} {m : Option Nat} {T : Tab} {bs : List Nat} (h : TabV w m T) (hk : Keeps bs w w') (hb : ∀ b, m = some b → b ∉ bs) : TabV w' m T := by
  cases m with
  | none => exact h
  | some b => exact MapAt.keep h hk (hb b rfl)
theorem TabV.grow {w w' : World} {m : Option Nat} {T : Tab} (h : TabV w m T) (hk : Keeps [] w w') : TabV w' m T := h.keep hk (by simp)
theorem TabV.lt {w : World} {b : Nat} {T : Tab} (h : TabV w (some b) T) : b < w.heap.size := World.ownsMap.lt h

theorem bytes_inj {s : ByteArray} {x : List UInt8} (h : s.data.toList = x) : s = ⟨x.toArray⟩ := by
  subst h
  simp

/-- What a look-up answers. -/
theorem run_look {w : World} {m : Option Nat} {T : Tab} (h : TabV w m T) (t : TypeId) (ht : Tryz.prog.underlying t = some (.map 9 73)) (k : List UInt8) (hk : k.length ≤ maxLen) :
    (Instr.lookup t (.map m) (.string ⟨k.toArray⟩) true).run Tryz.prog w = .ok (.tuple #[.agg #[.string ⟨(tval T k).toArray⟩], .bool (thas T k)]) w ∧
    (Instr.lookup t (.map m) (.string ⟨k.toArray⟩) false).run Tryz.prog w = .ok (.agg #[.string ⟨(tval T k).toArray⟩]) w := by
  cases m with
  | none =>
    have hT : T = [] := h
    subst hT
    have e1 := Maps.look_nil true slaw ht (szero w) (skey hk)
    have e2 := Maps.look_nil false slaw ht (szero w) (skey hk)
    exact ⟨e1, e2⟩
  | some b =>
    have hm : MapAt w b T := h
    have hz : rowElem (.agg #[.string ⟨#[]⟩]) = some (.lit (.string []), []) := rowElem_mk _ (by simp [ByteArray.size])
    obtain ⟨v, ps, h1, h2⟩ := World.ownsMap.look_ok hm slaw ht (szero w) hz (skey hk)
    obtain ⟨v', ps', h1', h2'⟩ := World.ownsMap.lookup hm slaw ht (szero w) hz (skey hk)
    rw [at_datT] at h2 h2'
    obtain ⟨s, rfl, hs, _⟩ := rowElem_inv h2
    obtain ⟨s', rfl, hs', _⟩ := rowElem_inv h2'
    simp only [Prod.mk.injEq, DataW.lit.injEq, Lit.string.injEq] at hs hs'
    rw [has_datT] at h1
    rw [bytes_inj hs.1.symm] at h1
    rw [bytes_inj hs'.1.symm] at h1'
    exact ⟨h1, h1'⟩

theorem run_tlen {w : World} {m : Option Nat} {T : Tab} (h : TabV w m T) (t : TypeId) (ht : Tryz.prog.underlying t = some (.map 9 73)) (ty : TypeId) : (Builtin.len_ #[t] ty #[.map m]).run Tryz.prog w = .ok (.int .i64 (T.length : Nat)) w := by
  cases m with
  | none =>
    have hT : T = [] := h
    subst hT
    exact Maps.len_nil ht ty
  | some b =>
    have := World.ownsMap.len (show MapAt w b T from h) ht ty
    rwa [size_datT] at this

/-- What a write leaves. -/
theorem run_tput {w : World} {b : Nat} {T : Tab} (h : MapAt w b T) (t : TypeId) (ht : Tryz.prog.underlying t = some (.map 9 73)) (k v : List UInt8) (hk : k.length ≤ maxLen) (hv : v.length ≤ maxLen) (hT : T.length < maxLen) :
    ∃ w', (Instr.mapUpdate t (.map (some b)) (.string ⟨k.toArray⟩) (.agg #[.string ⟨v.toArray⟩])).run Tryz.prog w = .ok () w' ∧ MapAt w' b (tput T k v) ∧ Keeps [b] w w' ∧ w'.heap.size = w.heap.size := by
  obtain ⟨w', h1, h2, h3⟩ := World.ownsMap.store h slaw ht hT (skey hk) (rowElem_mk ⟨v.toArray⟩ (by simpa [ByteArray.size] using hv))
  refine ⟨w', h1, MapAt.of (by rw [← put_datT]; simpa using h2), Keeps.of_grown h3.grown (fun x hx => .inl (by simpa using hx.symm)), ?_⟩
  obtain ⟨es, clock, es', clock', _, rfl⟩ := h3
  simp [setBlock]
theorem run_tdel {w : World} {b : Nat} {T : Tab} (h : MapAt w b T) (t : TypeId) (ht : Tryz.prog.underlying t = some (.map 9 73)) (k : List UInt8) (hk : k.length ≤ maxLen) (ty : TypeId) :
    ∃ w', (Builtin.delete_ #[t, 9] ty #[.map (some b), .string ⟨k.toArray⟩]).run Tryz.prog w = .ok (.tuple #[]) w' ∧ MapAt w' b (tdel T k) ∧ Keeps [b] w w' ∧ w'.heap.size = w.heap.size := by
  obtain ⟨w', h1, h2, h3⟩ := World.ownsMap.drop h slaw ht (skey hk) ty
  refine ⟨w', h1, MapAt.of (by rw [← del_datT]; exact h2), Keeps.of_grown h3.grown (fun x hx => .inl (by simpa using hx.symm)), ?_⟩
  obtain ⟨es, clock, es', clock', _, rfl⟩ := h3
  simp [setBlock]

/-- A new map has the empty table. -/
theorem MapAt.made (w : World) : MapAt (w.alloc (.map #[] 0)) w.heap.size [] := World.ownsMap_made w Tryz.prog 9 rowElem

theorem MapAt.rising {w : World} {b : Nat} {T : Tab} (h : MapAt w b T) : Rising T := by
  obtain ⟨es, he, hs, hk⟩ := World.ownsMap.canon h slaw
  unfold datT at he
  injection he with he
  subst he
  unfold Rising
  rw [List.pairwise_map] at hs
  exact hs
theorem TabV.rising {w : World} {m : Option Nat} {T : Tab} (h : TabV w m T) : Rising T := by
  cases m with
  | none => have hT : T = [] := h; subst hT; exact List.Pairwise.nil
  | some b => exact MapAt.rising h

end Go.Proofs.YthgpjlmdllihmaaGreat
/- A table gone over: its weight. -/
namespace Go.Proofs.YthgpjlmdllihmaaGreat
open Go.RowKit Go.Maps Go.ChangeMaps Go.MapKept
set_option linter.unusedVariables false
set_option linter.unusedSimpArgs false

abbrev wtE (p : List UInt8 × List UInt8) : Nat := 16 + p.1.length + p.2.length
/-- The weight of what is still to come. -/
def wtLeft (left : Lit → Bool) (T : Tab) : Nat := ((T.filter fun p => left (.string p.1)).map wtE).sum

theorem Rising.cons {p : List UInt8 × List UInt8} {T : Tab} (h : Rising (p :: T)) : Rising T := (List.pairwise_cons.1 h).2
theorem before_irrefl : ∀ x : List UInt8, bytesBefore x x = false
  | [] => rfl
  | a :: r => by simp [bytesBefore, before_irrefl r]
theorem Rising.ne {p : List UInt8 × List UInt8} {T : Tab} (h : Rising (p :: T)) : ∀ q ∈ T, q.1 ≠ p.1 := fun q hq he => by
  have := (List.pairwise_cons.1 h).1 q hq
  rw [he, before_irrefl] at this
  cases this

theorem wtLeft_step {left : Lit → Bool} {k v : List UInt8} : ∀ {T : Tab}, Rising T → tget T k = some v → left (.string k) = true → wtLeft left T = wtE (k, v) + wtLeft (fun z => left z && !z.sameKey (.string k)) T
  | [], _, h, _ => by simp [tget] at h
  | p :: T, hr, h, hl => by
    by_cases hk : p.1 = k
    · have hv : p.2 = v := by simpa [tget, List.find?_cons, hk] using h
      have h1 : (T.filter fun q => left (.string q.1)) = T.filter fun q => (left (.string q.1) && !(Lit.string q.1).sameKey (.string k)) := by
        refine List.filter_congr fun q hq => ?_
        have hne := hr.ne q hq
        rw [hk] at hne
        simp [Lit.sameKey, hne]
      have h2 : (Lit.string p.1).sameKey (.string k) = true := by simp [Lit.sameKey, hk]
      unfold wtLeft
      rw [List.filter_cons_of_pos (by rw [hk]; exact hl), List.filter_cons_of_neg (by simp [h2]), List.map_cons, List.sum_cons, ← h1]
      rw [show p = (k, v) from by rw [← hk, ← hv]]
    · have hg : tget T k = some v := by
        have hb : (p.1 == k) = false := by simpa using hk
        simpa [tget, List.find?_cons, hb] using h
      have ih := wtLeft_step hr.cons hg hl
      have h2 : (Lit.string p.1).sameKey (.string k) = false := by simpa [Lit.sameKey] using hk
      unfold wtLeft at ih ⊢
      cases hp : left (.string p.1)
      · rw [List.filter_cons_of_neg (by simp [hp]), List.filter_cons_of_neg (by simp [hp])]
        exact ih
      · rw [List.filter_cons_of_pos (by simp [hp]), List.filter_cons_of_pos (by simp [hp, h2]), List.map_cons, List.sum_cons, List.map_cons, List.sum_cons, ih]
        omega

theorem wtLeft_start {left : Lit → Bool} {T : Tab} (h : ∀ p ∈ T, left (.string p.1) = true) : wtLeft left T = tweight T := by
  unfold wtLeft
  rw [List.filter_eq_self.2 h]
  rfl
theorem wtLeft_end {left : Lit → Bool} {T : Tab} (h : ∀ kl, left kl = false) : wtLeft left T = 0 := by
  unfold wtLeft
  rw [List.filter_eq_nil_iff.2 (fun p _ => by simp [h])]
  rfl
theorem thas_all {T : Tab} : ∀ p ∈ T, Maps.has (datT T) (.string p.1) = true := fun p hp => by
  rw [has_datT, thas, tget, Option.isSome_map, List.find?_isSome]
  exact ⟨p, hp, by simp⟩

theorem ranges_keep {w w' : World} {b r n : Nat} {D : DataW Unit} {left : Lit → Bool} {cnt : Nat} {bs : List Nat} (h : w.ranges Tryz.prog 9 rowElem b r n D left cnt) (hk : Keeps bs w w') (hb : b ∉ bs) (hr : r ∉ bs) : w'.ranges Tryz.prog 9 rowElem b r n D left cnt := by
  have h1 := h.owns.lt
  have h2 := h.lt
  obtain ⟨es, clock, since, seen, c0, hb', F, hs, hD, hr', rest⟩ := h
  exact ⟨es, clock, since, seen, c0, (hk.block b h1 hb).trans hb', F, hs, hD, (hk.block r h2 hr).trans hr', rest⟩

theorem at_find (T : Tab) (k : List UInt8) (zd : DataW Unit) : (datT T).atKey (.string k) zd = match tget T k with | some v => .lit (.string v) | none => zd := by
  simp only [datT, DataW.atKey, find_entT, tget]
  cases T.find? (fun p => p.1 == k) <;> rfl

theorem keyOf_sinv {key : Value} {kl : Lit} (h : keyOf Tryz.prog 9 key = some kl) : ∃ x : List UInt8, key = .string ⟨x.toArray⟩ ∧ kl = .string x ∧ x.length ≤ maxLen := by
  rw [Go.keyOf_string Tryz.underlying9] at h
  unfold mapKey at h
  rw [Tryz.underlying9] at h
  cases key <;> simp at h
  rename_i s
  exact ⟨s.data.toList, by simp, h.2.symm, by rw [Array.length_toList]; exact h.1⟩

/-- THE RANGE's STEP over a table. -/
theorem wpList_next_tab (w : World) {ops : Array Oper} {rest : List Oper} {o : Oper} {a : Act} {Q : Exit → Act → World → Prop} (hg : o.guard = none) (it : Operand) (hop : o.op = Op.next it false)
    (b r n : Nat) (T : Tab) (left : Lit → Bool) (cnt : Nat) (hit : a.eval it = .pointer (some ⟨r, 0, none⟩)) (h : w.ranges Tryz.prog 9 rowElem b r n (datT T) left cnt)
    (hDone : cnt = 0 → (∀ kl, left kl = false) → wpList Tryz.prog ops Q rest (a.put o.dst (.tuple #[.bool false])) w)
    (hMore : ∀ (k v : List UInt8) (w' : World) (cnt' : Nat), k.length ≤ maxLen → v.length ≤ maxLen → left (.string k) = true → tget T k = some v → w'.ranges Tryz.prog 9 rowElem b r n (datT T) (fun z => left z && !z.sameKey (.string k)) cnt' → cnt' < cnt →
      Keeps [r] w w' → w'.heap.size = w.heap.size → (Instr.entry (.pointer (some ⟨r, 0, none⟩))).run Tryz.prog w' = .ok (.tuple #[.string ⟨k.toArray⟩, .agg #[.string ⟨v.toArray⟩]]) w' → wpList Tryz.prog ops Q rest (a.put o.dst (.tuple #[.bool true, .string ⟨k.toArray⟩, .agg #[.string ⟨v.toArray⟩]])) w') :
    wpList Tryz.prog ops Q (o :: rest) a w :=
  wpList_next_ranges w hg it hop 9 slaw rowElem (fun x : List UInt8 => Value.string ⟨x.toArray⟩) (fun x : List UInt8 => Value.agg #[.string ⟨x.toArray⟩]) (fun key kl hkey => by obtain ⟨x, rfl, _⟩ := keyOf_sinv hkey; exact ⟨x, rfl⟩)
    (fun v y hv => by obtain ⟨s, rfl, _⟩ := rowElem_inv hv; exact ⟨s.data.toList, by simp⟩)
    b r n (datT T) left cnt hit h hDone (fun x c kl y w' cnt' hkey hlk hv hat hrg hlt hgr hsz hen => by
      obtain ⟨x', ex, rfl, hx⟩ := keyOf_sinv hkey
      have ex' : x = x' := by simpa using ex
      subst ex'
      obtain ⟨s, es, rfl, hs⟩ := rowElem_inv hv
      have es' : c = s.data.toList := by
        simp only [Value.agg.injEq, Array.mk.injEq, List.cons.injEq, Value.string.injEq, and_true] at es
        rw [← es]
      subst es'
      have hg : tget T x = some s.data.toList := by
        have h1 := hat .nil
        rw [at_find] at h1
        cases hh : tget T x with
        | none => rw [hh] at h1; cases h1
        | some v => rw [hh] at h1; simpa using h1
      exact hMore x s.data.toList w' cnt' hx (by rw [Array.length_toList]; exact hs) hlk hg hrg hlt (Keeps.of_grown hgr (fun z hz => .inl (by simpa using hz.symm))) hsz hen)

end Go.Proofs.YthgpjlmdllihmaaGreat
/- weight, maps.Copy: what each answers. -/
namespace Go.Proofs.YthgpjlmdllihmaaGreat
open Go.RowKit Go.Maps Go.ChangeMaps Go.MapKept
set_option linter.unusedVariables false
set_option linter.unusedSimpArgs false
set_option maxRecDepth 100000

set_option maxRecDepth 100000 in
theorem weight_any (m : Option Nat) (T : Tab) (w : World) (h : TabV w m T) (hT : tweight T ≤ 1000000000) : Calls Tryz.prog 38 #[.map m] w fun e w' => e = .returned (.int .i64 (tweight T : Nat)) ∧ Keeps [] w w' := by
  cases m with
  | none =>
    have hTn : T = [] := h
    subst hTn
    have hrg := run_range_nilMap (P := Tryz.prog) w 60 9 73 Tryz.underlying60
    have hnx : ∀ ty, (Instr.next (.pointer (some ⟨w.heap.size, 0, none⟩)) false ty).run Tryz.prog (w.alloc (.mapIter none 0 #[] 0)) = _ := fun ty => run_next_nilMap _ ty 0 0 #[]
    go_enter Tryz.func38, Tryz.ntmps38
    go_wp2
    refine wp_loop_rounds 1 ?_
    rw [rounds_succ]
    go_wp2
    go_ret
    exact ⟨rfl, (Keeps.refl [] w).alloc _⟩
  | some b =>
    have hown : MapAt w b T := h
    have hbl := hown.lt
    have hrise := hown.rising
    have HRI := Lib.hid hrise
    clear h hrise
    go_enter Tryz.func38, Tryz.ntmps38
    go_wp2_with (first
      | (at_range; refine wpList_range_own _ rfl _ 60 rfl 9 73 slaw Tryz.underlying60 rowElem b _ _ rfl hown ?_; intro w0 hrg0 hg0 hs0; have HRG0 := Lib.hid hrg0; have HG0 := Lib.hid (Keeps.of_grown (bs := []) hg0 (by simp)); clear hrg0 hg0)
      | go_in)
    go_frame
    go_loopw [3] (fun s wr => ∃ (left : Lit → Bool) (cnt : Nat) (z : Nat), s = .int .i64 (z : Int) ∧ Hid (wr.ranges Tryz.prog 9 rowElem b w.heap.size T.length (datT T) left cnt) ∧ Hid (z + wtLeft left T = tweight T) ∧ Hid (Keeps [] w wr))
      (fun _ wr => wr.rangeLeft b w.heap.size)
    case atStart => exact ⟨_, _, 0, rfl, HRG0, by show _ = _; rw [wtLeft_start thas_all]; omega, HG0⟩
    case round =>
      obtain ⟨left, cnt, z, rfl, hrg, hs, hk⟩ := hrel
      go_wp2_with (first
        | (at_next; refine wpList_next_tab _ rfl _ rfl b w.heap.size _ T _ _ rfl hrg.out ?_ ?_)
        | go_in)
      · intro hc0 hl0
        have hz : z = tweight T := by have := hs.out; rw [wtLeft_end hl0] at this; omega
        subst hz
        go_wp2
        go_ret
        exact ⟨rfl, hk.out⟩
      · intro k v w1 cnt1 hkl hvl hlk hat hrg1 hlt hk1 hs1 hen
        have hst := wtLeft_step HRI.out hat hlk
        have hsum := hs.out
        have e1 : z + wtE (k, v) + wtLeft (fun z => left z && !z.sameKey (.string k)) T = tweight T := by omega
        have hzs : z + (16 + k.length + v.length) ≤ 1000000000 := by simp only [wtE] at e1; omega
        have HRG1 := Lib.hid hrg1
        have HK1 := Lib.hid ((hk.out.trans hk1 (by simp)))
        have HE1 := Lib.hid e1
        clear hrg1 hk1 e1 hst hsum
        go_wp2_with fail
        go_roundw
        case rel => exact ⟨_, cnt1, z + wtE (k, v), by simp [wtE], HRG1.out.alloc _, HE1.out, HK1.out.alloc _⟩
        case measure => rw [(HRG1.out.alloc _).left_eq, hrg.out.left_eq]; exact hlt

theorem maybekey_is (k : List UInt8) (w : World) (hk : k.length ≤ 9223372036854775807) : Calls Tryz.prog 58 #[.string ⟨k.toArray⟩] w fun e w' => e = .returned (.bool (decide (1 ≤ k.length) && decide (k.length ≤ 200))) ∧ w = w' := by
  by_cases h : 1 ≤ k.length
  · go_enter Tryz.func58, Tryz.ntmps58
    go_wp2
    go_ret
    exact ⟨by first | (simp [h]; done) | (simp [h]; omega), rfl⟩
  · go_enter Tryz.func58, Tryz.ntmps58
    go_wp2
    go_ret
    exact ⟨by first | (simp [h]; done) | (simp [h]; omega), rfl⟩

theorem maybevalue_is (k : List UInt8) (w : World) (hk : k.length ≤ 9223372036854775807) : Calls Tryz.prog 59 #[.string ⟨k.toArray⟩] w fun e w' => e = .returned (.bool (decide (k.length ≤ 8192))) ∧ w = w' := by
  go_enter Tryz.func59, Tryz.ntmps59
  go_wp2
  go_ret
  exact ⟨by first | (simp; done) | (simp; omega), rfl⟩

end Go.Proofs.YthgpjlmdllihmaaGreat
/- maps.Copy of a table into a new one. -/
namespace Go.Proofs.YthgpjlmdllihmaaGreat
open Go.RowKit Go.Maps Go.ChangeMaps Go.MapKept
set_option linter.unusedVariables false
set_option linter.unusedSimpArgs false
set_option maxRecDepth 100000

theorem rowElem_mk' {v : List UInt8} (h : v.length ≤ maxLen) : rowElem (.agg #[.string ⟨v.toArray⟩]) = some (.lit (.string v), []) := by
  have := rowElem_mk ⟨v.toArray⟩ (by show v.toArray.size ≤ maxLen; simpa using h)
  simpa using this

theorem skey_lit (k : List UInt8) : WideAt.IsKeyLit (.string k) := trivial

/-- maps.Copy into a map that is empty: the same table. -/
theorem mcopy_any (d : Nat) (m : Option Nat) (T : Tab) (w : World) (hd : MapAt w d []) (h : TabV w m T) (hne : m ≠ some d) (hT : T.length ≤ 1000000) : Calls Tryz.prog 44 #[.map (some d), .map m] w fun e w' => e = .returned (.tuple #[]) ∧ MapAt w' d T ∧ Keeps [d] w w' := by
  cases m with
  | none =>
    have hTn : T = [] := h
    subst hTn
    have hrg := run_range_nilMap (P := Tryz.prog) w 60 9 73 Tryz.underlying60
    have hnx : ∀ ty, (Instr.next (.pointer (some ⟨w.heap.size, 0, none⟩)) false ty).run Tryz.prog (w.alloc (.mapIter none 0 #[] 0)) = _ := fun ty => run_next_nilMap _ ty 0 0 #[]
    have HD := Lib.hid hd
    clear hd
    go_enter Tryz.func44, Tryz.ntmps44
    go_wp2
    refine wp_loop_rounds 1 ?_
    rw [rounds_succ]
    go_wp2
    refine bodyPost_end (results_none rfl _ _ _) rfl ?_
    exact ⟨rfl, HD.out.keep ((Keeps.refl [] w).alloc _) (by simp), (Keeps.refl [d] w).alloc _⟩
  | some b =>
    have hown : MapAt w b T := h
    have hbl := hown.lt
    have hdl := hd.lt
    have hbd : b ≠ d := fun e => hne (by rw [e])
    have HOW := Lib.hid hown
    have HD := Lib.hid hd
    clear h hd
    go_enter Tryz.func44, Tryz.ntmps44
    go_wp2_with (first
      | (at_range; refine wpList_range_own _ rfl _ 60 rfl 9 73 slaw Tryz.underlying60 rowElem b _ _ rfl hown ?_; intro w0 hrg0 hg0 hs0; have HRG0 := Lib.hid hrg0; have HG0 := Lib.hid (Keeps.of_grown (bs := []) hg0 (by simp)); clear hrg0 hg0)
      | go_in)
    go_frame
    go_loopw [4] (fun _ wr => ∃ (left : Lit → Bool) (cnt : Nat) (Dout : DataW Unit), Hid (wr.ranges Tryz.prog 9 rowElem b w.heap.size T.length (datT T) left cnt) ∧ cnt ≤ T.length ∧
        Hid (wr.ownsMap Tryz.prog 9 rowElem d (T.length - cnt) Dout) ∧ Hid (Agree Dout (datT T) left) ∧ Hid (Keeps [d] w wr))
      (fun _ wr => wr.rangeLeft b w.heap.size)
    case atStart =>
      refine ⟨_, _, .map [], HRG0, by rw [size_datT]; exact Nat.le_refl _, ?_, agree_start _, HG0.out.mono (by simp)⟩
      have h0 := HD.out.keep HG0.out (by simp)
      exact World.ownsMap.mono h0 (Nat.zero_le _)
    case round =>
      obtain ⟨left, cnt, Dout, hrg, hcs, hout, hA, hk⟩ := hrel
      go_wp2_with (first
        | (at_next; refine wpList_next_tab _ rfl _ rfl b w.heap.size _ T _ _ rfl hrg.out ?_ ?_)
        | go_in)
      · intro hc0 hl0
        go_wp2
        refine bodyPost_end (results_none rfl _ _ _) rfl ?_
        subst hc0
        have e := agree_end hA.out hl0 (hout.out.canon slaw) (hown.canon slaw)
        subst e
        exact ⟨rfl, MapAt.of hout.out, hk.out⟩
      · intro k v w1 cnt1 hkl hvl hlk hat hrg1 hlt hk1 hs1 hen
        have hks := hk.out.size
        have hrlt := hrg.out.lt
        have HRG1 := Lib.hid (hrg1.alloc (.cells #[.string ⟨v.toArray⟩] 73))
        have HKA := Lib.hid (hk1.alloc (.cells #[.string ⟨v.toArray⟩] 73))
        have HO1 : Hid ((w1.alloc (.cells #[.string ⟨v.toArray⟩] 73)).ownsMap Tryz.prog 9 rowElem d (T.length - cnt) Dout) := by
          have h2 := hout.out.lt
          obtain ⟨es, clock, h3, h4⟩ := hout.out
          exact ⟨es, clock, (HKA.out.block d h2 (by simp; omega)).trans h3, h4⟩
        have HT1 : Hid (∀ zd, (datT T).atKey (.string k) zd = .lit (.string v)) := fun zd => by rw [at_find, hat]
        have HKK := Lib.hid (hk.out.trans HKA.out (fun x hx => .inr (by simp at hx; omega)))
        clear hrg1 hk1 hat
        go_wp2_with (first
          | (at_mapUpdate; refine wpList_mapUpdate_own _ rfl _ _ _ 60 rfl 9 73 slaw Tryz.underlying60 rowElem d _ _ rfl HO1.out (by unfold maxLen; omega) _ _ _ rfl rfl (skey hkl) _ [] (rowElem_mk' hvl) ?_; intro w2 hout2 hg2; go_frame)
          | go_in)
        have hk2 : Keeps [d] (w1.alloc (.cells #[.string ⟨v.toArray⟩] 73)) w2 := Keeps.of_grown hg2 (fun x hx => .inl (by simpa using hx.symm))
        have HRG2 := Lib.hid (ranges_keep HRG1.out hk2 (by simpa using hbd) (by simp; omega))
        go_roundw
        case rel =>
          exact ⟨_, cnt1, _, HRG2, by omega, World.ownsMap.mono hout2 (by omega), agree_step hA.out hout.out.isMap (skey_lit k) HT1.out, HKK.out.trans' hk2⟩
        case measure => rw [HRG2.out.left_eq, hrg.out.left_eq]; exact hlt

end Go.Proofs.YthgpjlmdllihmaaGreat
