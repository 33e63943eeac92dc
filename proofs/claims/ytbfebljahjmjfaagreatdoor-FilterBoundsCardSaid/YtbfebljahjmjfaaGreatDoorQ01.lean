import Derived.WalkKit
import Derived.WalkSpells
import Derived.WalkMore
import Derived.Lib.Hide
import Derived.Deep.AppendLies
import Derived.Deep.Onto
import Derived.Deep.Draws
import Derived.Laws.CopyOwn
import Derived.ScopeJumps
import Derived.StillTailTactics
import Derived.Maps.AppendAt
import Derived.Test.YtbfebljahjmjfaaGreatDoorProg
import Derived.Deep.RegionLaw
import Derived.Lib.SlBytesRow
import Derived.ProofKit
import Derived.Deep.RegionHeld3
import Derived.Laws.OwnMore
import Derived.Shelf.RegionOpenPlain
import Derived.Laws.IdiomStrings
import Derived.Laws.BitsAllLaws
/- Words for memory, of no program: which blocks a step may turn (Keeps), bytes that a slice value reads as (BytesAt), and how both go on over steps. -/
namespace Go.Proofs.YtbfebljahjmjfaaGreatDoor
open Go.RowKit
set_option linter.unusedVariables false

/-- A byte as a cell holds it. -/
def bv (x : UInt8) : Value := .int .u8 (x.toNat : Int)
theorem bvs_one {l : List UInt8} : ∀ u ∈ l.map bv, u.oneCell' = true := by
 intro u hu
 obtain ⟨x, _, rfl⟩ := List.mem_map.1 hu
 rfl

/-- Of the blocks that were there only those of the list may have turned; new ones may have come. -/
structure Keeps (bs : List Nat) (w w' : World) : Prop where
 os : w'.os = w.os
 tape : w'.tape = w.tape
 output : w'.output = w.output
 size : w.heap.size ≤ w'.heap.size
 block : ∀ b, b < w.heap.size → b ∉ bs → w'.heap[b]? = w.heap[b]?

section
variable {bs cs : List Nat} {a b c w w' : World}
theorem Keeps.refl (bs : List Nat) (w : World) : Keeps bs w w := ⟨rfl, rfl, rfl, Nat.le_refl _, fun _ _ _ => rfl⟩
theorem Keeps.trans (h : Keeps bs a b) (k : Keeps cs b c) (hc : ∀ x ∈ cs, x ∈ bs ∨ a.heap.size ≤ x) : Keeps bs a c :=
 ⟨k.os.trans h.os, k.tape.trans h.tape, k.output.trans h.output, Nat.le_trans h.size k.size, fun i hi hn =>
  (k.block i (Nat.lt_of_lt_of_le hi h.size) (fun hm => by rcases hc i hm with h1 | h1 <;> first | exact hn h1 | omega)).trans (h.block i hi hn)⟩
theorem Keeps.trans' (h : Keeps bs a b) (k : Keeps bs b c) : Keeps bs a c := h.trans k fun _ h => .inl h
theorem Keeps.mono (h : Keeps bs a b) (hs : ∀ x ∈ bs, x ∈ cs ∨ a.heap.size ≤ x) : Keeps cs a b :=
 ⟨h.os, h.tape, h.output, h.size, fun i hi hn => h.block i hi (fun hm => by rcases hs i hm with h1 | h1 <;> first | exact hn h1 | omega)⟩
theorem Keeps.drew (h : Keeps bs a b) : Keeps bs a b.drew := ⟨h.os, h.tape, h.output, h.size, h.block⟩
theorem Keeps.drewN (h : Keeps bs a b) (n : Nat) : Keeps bs a (b.drewN n) := ⟨h.os, h.tape, h.output, h.size, h.block⟩
theorem Keeps.alloc (h : Keeps bs a b) (o : Obj) : Keeps bs a (b.alloc o) :=
 ⟨h.os, h.tape, h.output, Nat.le_trans h.size (by simp), fun i hi hn => (Below.heap_alloc b o i (Nat.lt_of_lt_of_le hi h.size)).trans (h.block i hi hn)⟩
theorem Keeps.setCell (h : Keeps bs a b) {p : Addr} (hp : p.block ∈ bs ∨ a.heap.size ≤ p.block) (u : Value) : Keeps bs a (b.setCell p u) :=
 ⟨h.os, h.tape, h.output, by simpa [World.setCell] using h.size, fun i hi hn => (Below.heap_setCell b p u i (by
  rintro rfl
  rcases hp with hp | hp
  ·exact hn hp
  ·omega)).trans (h.block i hi hn)⟩
theorem Keeps.of_grown {row : Option Nat} (h : w.grownBy w' row) (hr : ∀ x, row = some x → x ∈ bs ∨ w.heap.size ≤ x) : Keeps bs w w' :=
 ⟨h.os, h.tape, h.output, h.size, fun i hi hn => h.block i hi (fun e => by rcases hr i e.symm with h1 | h1 <;> first | exact hn h1 | omega)⟩
theorem Keeps.of_below (h : Below w.heap.size w w') : Keeps bs w w' := ⟨h.os, h.tape, h.output, h.size, fun i hi _ => h.block i hi⟩
theorem Keeps.below {B : Nat} (h : Keeps bs w w') (hB : B ≤ w.heap.size) (hb : ∀ x ∈ bs, B ≤ x) : Below B w w' :=
 ⟨h.os, h.tape, h.output, h.size, fun i hi => h.block i (by omega) (fun hm => by have := hb i hm; omega)⟩
theorem Keeps.cell (h : Keeps bs w w') {p : Addr} (hl : p.block < w.heap.size) (hp : p.block ∉ bs) : w'.cell? p = w.cell? p := World.cell?_of_block (h.block _ hl hp)
end

theorem lt_of_heap {w : World} {b : Nat} {o : Obj} (h : w.heap[b]? = some o) : b < w.heap.size := by
 rcases Nat.lt_or_ge b w.heap.size with hlt | hge
 ·exact hlt
 ·rw [Array.getElem?_eq_none hge] at h; cases h

theorem lt_of_cell {w : World} {p : Addr} {v : Value} (h : w.cell? p = some v) : p.block < w.heap.size := by
 unfold World.cell? at h
 rcases hh : w.heap[p.block]? with _ | o
 ·rw [hh] at h; cases h
 ·exact lt_of_heap hh

theorem own_keep {w w' : World} {base : Nat} {e : TypeId} {k : Nat} {v : Value} {n : Nat} {xs : List Value} {bs : List Nat} (h : w.ownsRow base e k v n xs) (hk : Keeps bs w w') (hb : ∀ b, v.ownBlock = some b → b ∉ bs) : w'.ownsRow base e k v n xs := by
 obtain ⟨h1, h2⟩ := h
 refine ⟨h1, ?_⟩
 rcases h2 with h2 | ⟨g, cap, cur, rfl, hg, hh, r⟩
 ·exact .inl h2
 ·exact .inr ⟨g, cap, cur, rfl, hg, by rw [hk.block g (lt_of_heap hh) (hb g rfl)]; exact hh, r⟩

/-- A slice value that reads as these bytes; it may be nil where there are none. -/
def BytesAt (w : World) (v : Value) (xs : List UInt8) : Prop :=
 ∃ A c, v = .slice A xs.length c ∧ xs.length ≤ c ∧ c ≤ maxLen ∧ (0 < xs.length → ∃ b o, A = some ⟨b, o, none⟩ ∧ ∀ i u, xs[i]? = some u → w.cell? ⟨b, o + i, none⟩ = some (bv u))

theorem BytesAt.keep {w w' : World} {v : Value} {xs : List UInt8} {bs : List Nat} (h : BytesAt w v xs) (hk : Keeps bs w w') (hb : ∀ b, v.ownBlock = some b → b ∉ bs) : BytesAt w' v xs := by
 obtain ⟨A, c, rfl, h1, h2, h3⟩ := h
 refine ⟨A, c, rfl, h1, h2, fun hp => ?_⟩
 obtain ⟨b, o, rfl, hc⟩ := h3 hp
 refine ⟨b, o, rfl, fun i u hu => ?_⟩
 have := hc i u hu
 rw [hk.cell (lt_of_cell this) (hb b rfl)]
 exact this

theorem BytesAt.of_own {w : World} {base : Nat} {t : TypeId} {v : Value} {xs : List UInt8} (h : w.ownsRow base t 1 v xs.length (xs.map bv)) : BytesAt w v xs := by
 rcases h.2 with ⟨rfl, hn⟩ | ⟨g, cap, cur, rfl, _, hh, hc, hm, _, _⟩
 ·exact ⟨none, 0, by rw [hn], by omega, by unfold maxLen; omega, fun hp => by omega⟩
 ·refine ⟨_, cap, rfl, hc, hm, fun _ => ⟨g, 0, rfl, fun i u hu => ?_⟩⟩
  have := h.cells (g := g) rfl i (bv u) (by simp [hu])
  rwa [show (⟨g, 0, none⟩ : Addr).add i = ⟨g, 0 + i, none⟩ from by unfold Addr.add; split <;> simp_all] at this

/-- A scope out of which a goto leads once to the label at its end: what stands behind the label is walked from the jump on. -/
theorem wp_scope_once {P : Program} {a : Act} {w : World} {Q : Exit → Act → World → Prop} {c rest : Code} (l : Nat) (hf : findLabel c l = some rest)
  (h : c.wp P (Exit.jump l (fun a w => rest.wp P (Exit.noGoto Q) a w) Q) a w) : (Code.scope c).wp P Q a w := by
 refine wp_scope_jumps l _ (fun _ _ => 0) hf h fun a w hJ => wp_mono hJ fun e a w he => ?_
 cases e with
 | goto l' => exact he.elim
 | normal => exact he
 | exit id => exact he
 | ret => exact he
 | panic ch => exact he
 | outgrown => exact he

theorem aL {α : Type} : (∀ {xs : List α} {i : Nat} (h : i < xs.toArray.size), xs.toArray[i] = xs[i]'(by simpa using h)) ∧ (∀ (a : α) (l : List α) (i : Nat) (h : i + 1 < (a :: l).length), (a :: l)[i + 1] = l[i]'(by simpa using h)) ∧ (∀ (a : α) (l : List α) (h : 0 < (a :: l).length), (a :: l)[0] = a) ∧ (∀ (l : List α) (i : Nat) (a : α), l.toArray.setIfInBounds i a = (l.set i a).toArray) ∧ (∀ (a : α) (l : List α) (b : α), (a :: l).set 0 b = b :: l) ∧ (∀ (a : α) (l : List α) (n : Nat) (b : α), (a :: l).set (n + 1) b = a :: l.set n b) :=
 ⟨fun h => List.getElem_toArray h, fun a l i h => List.getElem_cons_succ .., fun a l h => List.getElem_cons_zero .., fun l i a => by simp, fun a l b => rfl, fun a l n b => rfl⟩
end Go.Proofs.YtbfebljahjmjfaaGreatDoor
/- Words for memory that speak of no program: slices, appends, boxes of five cells. -/
namespace Go.Proofs.YtbfebljahjmjfaaGreatDoor
open Go.RowKit
set_option linter.unusedVariables false

theorem add_at (g o i : Nat) : (⟨g, o, none⟩ : Addr).add i = ⟨g, o + i, none⟩ := by unfold Addr.add; split <;> simp_all

/-- Cells that an address tells, from a row of bytes at a place of a block. -/
theorem cells_add {w : World} {b o : Nat} {xs : List UInt8} (h : ∀ i u, xs[i]? = some u → w.cell? ⟨b, o + i, none⟩ = some (bv u)) : ∀ j u, (xs.map bv)[j]? = some u → w.cell? ((⟨b, o, none⟩ : Addr).add j) = some u := by
 intro j u hu
 rw [List.getElem?_map, Option.map_eq_some_iff] at hu
 obtain ⟨x, hx, rfl⟩ := hu
 rw [add_at]
 exact h j x hx

theorem cells_alloc {w : World} {ad : Addr} {l : List Value} (h : ∀ j u, l[j]? = some u → w.cell? (ad.add j) = some u) (o : Obj) : ∀ j u, l[j]? = some u → (w.alloc o).cell? (ad.add j) = some u := by
 intro j u hu
 have := h j u hu
 rw [World.cell?_alloc_lt _ _ _ (lt_of_cell this)]
 exact this

theorem own_slice {w : World} {base : Nat} {e : TypeId} {k n : Nat} {v : Value} {xs : List Value} (h : w.ownsRow base e k v n xs) : ∃ A c, v = .slice A n c := by
 rcases h.2 with ⟨rfl, rfl⟩ | ⟨g, cap, cur, rfl, _⟩
 ·exact ⟨_, _, rfl⟩
 ·exact ⟨_, _, rfl⟩

theorem BytesAt.cells {w : World} {ad : Addr} {n c : Nat} {xs : List UInt8} (h : BytesAt w (.slice (some ad) n c) xs) : ∀ j u, (xs.map bv)[j]? = some u → w.cell? (ad.add j) = some u := by
 obtain ⟨A, c', he, h1, h2, h3⟩ := h
 injection he with he _ _
 subst he
 intro j u hu
 have hj : j < xs.length := by
  rcases Nat.lt_or_ge j xs.length with h | h
  ·exact h
  ·rw [List.getElem?_eq_none (by simpa using h)] at hu; cases hu
 obtain ⟨b, o, h, hc⟩ := h3 (by omega)
 injection h with h
 subst h
 exact cells_add hc j u hu

theorem BytesAt.lt {w : World} {v : Value} {xs : List UInt8} (h : BytesAt w v xs) (hn : 0 < xs.length) : ∀ b, v.ownBlock = some b → b < w.heap.size := by
 obtain ⟨A, c, rfl, h1, h2, h3⟩ := h
 obtain ⟨b, o, rfl, hc⟩ := h3 hn
 intro b' hb
 simp only [Value.ownBlock, Option.some.injEq] at hb
 subst hb
 have h0 : xs[0]? = some xs[0] := List.getElem?_eq_getElem hn
 exact lt_of_cell (hc 0 _ h0)

/-- Bytes that lie in old blocks read the same where only new ones have come. -/
theorem BytesAt.grow {w w' : World} {v : Value} {xs : List UInt8} (h : BytesAt w v xs) (hk : Keeps [] w w') : BytesAt w' v xs := h.keep hk (by simp)

theorem cell_of_blk {w : World} {b : Nat} {cs : Array Value} {t : TypeId} (h : w.heap[b]? = some (.cells cs t (0, 0))) (i : Nat) : w.cell? ⟨b, i, none⟩ = cs[i]? := by simp [World.cell?, h]

theorem free_of_blk {w : World} {b : Nat} {cs : Array Value} {t : TypeId} (h : w.heap[b]? = some (.cells cs t (0, 0))) (i : Nat) : w.frozen? ⟨b, i, none⟩ = false := by simp [World.frozen?, h]

theorem run_append_nilsrc {P : Program} {w : World} (base : Nat) (t ty e : TypeId) (i : TypeInfo) (size : Nat) (ht : P.underlying t = some (.slice e)) (hi : P.info? e = some i) (v : Value) (n : Nat) (xs : List Value) (hown : w.ownsRow base e size v n xs) (c : Nat) :
  (Builtin.append_ #[t, t] ty #[v, .slice none 0 c]).run P w = .ok v w := by
 rcases hown.2 with ⟨rfl, rfl⟩ | ⟨g, cap, cur, rfl, _, _, hnc, _⟩
 ·simp [Builtin.append_, run_underlying ht, sizeOf, typeInfo, hi, Builtin.lenOf, Builtin.firstCells]
 ·simp [Builtin.append_, run_underlying ht, sizeOf, typeInfo, hi, Builtin.lenOf, Builtin.firstCells, hnc, storeCells]

/-- Cells that a source slice tells; a nil one tells none. -/
def Src (w : World) (A : Option Addr) (m : Nat) (news : List Value) : Prop := (A = none → m = 0) ∧ ∀ ad, A = some ad → ∀ j u, news[j]? = some u → w.cell? (ad.add j) = some u

theorem Src.of_bytes {w : World} {A : Option Addr} {n c : Nat} {xs : List UInt8} (h : BytesAt w (.slice A n c) xs) : Src w A n (xs.map bv) := by
 refine ⟨fun hA => ?_, fun ad hA => ?_⟩
 ·obtain ⟨A', c', he, _, _, h3⟩ := h
  injection he with he1 he2 _
  subst he1
  rcases Nat.eq_zero_or_pos n with h0 | h0
  ·exact h0
  ·obtain ⟨b, o, hb, _⟩ := h3 (by omega)
   rw [hA] at hb
   cases hb
 ·subst hA
  exact h.cells

theorem Src.of_own {w : World} {base : Nat} {e : TypeId} {z : Nat} {A : Option Addr} {n c : Nat} {xs : List Value} (h : w.ownsRow base e z (.slice A n c) n xs) : Src w A n xs := by
 refine ⟨fun hA => ?_, fun ad hA => ?_⟩
 ·subst hA
  rcases h.2 with ⟨_, h0⟩ | ⟨g, cap, cur, he, _⟩
  ·exact h0
  ·injection he with he _ _; cases he
 ·subst hA
  rcases h.2 with ⟨he, _⟩ | ⟨g, cap, cur, he, _⟩
  ·injection he with he _ _; cases he
  ·injection he with he _ _
   injection he with he
   subst he
   exact h.cells (g := g) rfl

theorem Src.grow {w w' : World} {A : Option Addr} {m : Nat} {news : List Value} (h : Src w A m news) (hk : Keeps [] w w') : Src w' A m news :=
 ⟨h.1, fun ad hA j u hu => (hk.cell (lt_of_cell (h.2 ad hA j u hu)) (by simp)).trans (h.2 ad hA j u hu)⟩

theorem run_append_opt {P : Program} {w : World} (base : Nat) (t ty e : TypeId) (i : TypeInfo) (z : Value) (size bytes : Nat) (ht : P.underlying t = some (.slice e)) (hi : P.info? e = some i) (hz : i.zero = some z)
  (hsize : i.size = size) (hby : i.bytes = bytes) (hzs : z.cells.size = size) (hsz : 0 < size)
  (v : Value) (n : Nat) (xs : List Value) (hown : w.ownsRow base e size v n xs)
  (A : Option Addr) (m c : Nat) (news : List Value) (hl : news.length = m * size) (hnews : Src w A m news) (h1 : ∀ u ∈ news, u.oneCell' = true)
  (h63 : n + m ≤ maxLen) (hbytes : (n + m) * bytes ≤ 140737488355328) (hbase : base ≤ w.heap.size) :
  ∃ v' w', (Builtin.append_ #[t, t] ty #[v, .slice A m c]).run P w = .ok v' w' ∧ w'.ownsRow base e size v' (n + m) (xs ++ news) ∧ w.grownBy w' v.ownBlock ∧ (v'.ownBlock = v.ownBlock ∨ v'.ownBlock = some w.heap.size) := by
 rcases A with _ | ad
 ·have hm := hnews.1 rfl
  subst hm
  have hn : news = [] := List.eq_nil_of_length_eq_zero (by simpa using hl)
  subst hn
  exact ⟨v, w, run_append_nilsrc base t ty e i size ht hi v n xs hown c, by simpa using hown, ⟨rfl, rfl, rfl, Nat.le_refl _, fun _ _ _ => rfl⟩, .inl rfl⟩
 ·obtain ⟨v', w', h2, h3, h4, _, h5⟩ := run_append_own_at (P := P) w base t ty e i z size bytes ht hi hz hsize hby hzs hsz v n xs hown ad m c news hl (hnews.2 ad rfl) h1 h63 hbytes hbase
  exact ⟨v', w', h2, h3, h4, h5⟩

theorem wp_append_opt {P : Program} {w : World} {o : Oper} {a : Act} {K : Act → World → Prop} {Q : Exit → Act → World → Prop} (s x : Operand) (t : TypeId)
  (ho : o.op = .call { callee := .builtin .append, args := #[s, x], argTypes := #[t, t] })
  (base : Nat) (e : TypeId) (i : TypeInfo) (z : Value) (size bytes : Nat) (ht : P.underlying t = some (.slice e)) (hi : P.info? e = some i) (hz : i.zero = some z)
  (hsize : i.size = size) (hby : i.bytes = bytes) (hzs : z.cells.size = size) (hsz : 0 < size)
  (v : Value) (n : Nat) (xs : List Value) (hs : a.eval s = v) (hown : w.ownsRow base e size v n xs)
  (A : Option Addr) (m c : Nat) (news : List Value) (hx : a.eval x = .slice A m c) (hl : news.length = m * size) (hnews : Src w A m news) (h1 : ∀ u ∈ news, u.oneCell' = true)
  (h63 : n + m ≤ maxLen) (hbytes : (n + m) * bytes ≤ 140737488355328) (hbase : base ≤ w.heap.size)
  (h : ∀ v' w', w'.ownsRow base e size v' (n + m) (xs ++ news) → w.grownBy w' v.ownBlock → (v'.ownBlock = v.ownBlock ∨ v'.ownBlock = some w.heap.size) → K (a.put o.dst v') w') : o.wp P a w K Q := by
 obtain ⟨v', w', hr, h2, h3, h4⟩ := run_append_opt (P := P) (w := w) base t o.type e i z size bytes ht hi hz hsize hby hzs hsz v n xs hown A m c news hl hnews h1 h63 hbytes hbase
 unfold Oper.wp execOp
 simp only [ho, resolve, invoke, builtin, Sem.run_bind, Sem.run_pure, Result.andThen_ok, List.map_toArray, List.map_cons, List.map_nil, hs, hx, hr]
 exact h v' w' h2 h3 h4

theorem wpList_append_opt {P : Program} {w : World} {ops : Array Oper} {rest : List Oper} {o : Oper} {a : Act} {Q : Exit → Act → World → Prop} (hgd : o.guard = none) (s x : Operand) (t : TypeId)
  (ho : o.op = .call { callee := .builtin .append, args := #[s, x], argTypes := #[t, t] })
  (base : Nat) (e : TypeId) (i : TypeInfo) (z : Value) (size bytes : Nat) (ht : P.underlying t = some (.slice e)) (hi : P.info? e = some i) (hz : i.zero = some z)
  (hsize : i.size = size) (hby : i.bytes = bytes) (hzs : z.cells.size = size) (hsz : 0 < size)
  (v : Value) (n : Nat) (xs : List Value) (hs : a.eval s = v) (hown : w.ownsRow base e size v n xs)
  (A : Option Addr) (m c : Nat) (news : List Value) (hx : a.eval x = .slice A m c) (hl : news.length = m * size) (hnews : Src w A m news) (h1 : ∀ u ∈ news, u.oneCell' = true)
  (h63 : n + m ≤ maxLen) (hbytes : (n + m) * bytes ≤ 140737488355328) (hbase : base ≤ w.heap.size)
  (h : ∀ v' w', w'.ownsRow base e size v' (n + m) (xs ++ news) → w.grownBy w' v.ownBlock → (v'.ownBlock = v.ownBlock ∨ v'.ownBlock = some w.heap.size) → wpList P ops Q rest (a.put o.dst v') w') : wpList P ops Q (o :: rest) a w :=
 wpList_plain hgd fun _ hK => wp_append_opt s x t ho base e i z size bytes ht hi hz hsize hby hzs hsz v n xs hs hown A m c news hx hl hnews h1 h63 hbytes hbase fun v' w' h2 h3 h4 => hK _ _ (h v' w' h2 h3 h4)

theorem blk_keep {w w' : World} {g : Nat} {o : Obj} {bs : List Nat} (h : w.heap[g]? = some o) (hk : Keeps bs w w') (hb : g ∉ bs) : w'.heap[g]? = some o := (hk.block g (lt_of_heap h) hb).trans h

/-- Cells and marks of a block of five. -/
theorem five_facts {w : World} {g : Nat} {a b c d e : Value} {t : TypeId} (h : w.heap[g]? = some (.cells #[a, b, c, d, e] t (0, 0))) :
  (w.cell? ⟨g, 0, none⟩ = some a ∧ w.cell? ⟨g, 1, none⟩ = some b ∧ w.cell? ⟨g, 2, none⟩ = some c ∧ w.cell? ⟨g, 3, none⟩ = some d ∧ w.cell? ⟨g, 4, none⟩ = some e) ∧
  (w.frozen? ⟨g, 0, none⟩ = false ∧ w.frozen? ⟨g, 1, none⟩ = false ∧ w.frozen? ⟨g, 2, none⟩ = false ∧ w.frozen? ⟨g, 3, none⟩ = false ∧ w.frozen? ⟨g, 4, none⟩ = false) :=
 ⟨⟨cell_of_blk h 0, cell_of_blk h 1, cell_of_blk h 2, cell_of_blk h 3, cell_of_blk h 4⟩, ⟨free_of_blk h 0, free_of_blk h 1, free_of_blk h 2, free_of_blk h 3, free_of_blk h 4⟩⟩

theorem cap_of_own {w : World} {base : Nat} {e : TypeId} {z n c : Nat} {A : Option Addr} {xs : List Value} (h : w.ownsRow base e z (.slice A n c) n xs) : n ≤ c ∧ c ≤ 9223372036854775807 := by
 rcases h.2 with ⟨h1, h2⟩ | ⟨g, cap, cur, he, _, _, hnc, hm, _⟩
 ·injection h1 with _ h1 h3; omega
 ·injection he with _ _ he; unfold maxLen at hm; omega

theorem bytes_addr {w : World} {A : Option Addr} {n c : Nat} {xs : List UInt8} (h : BytesAt w (.slice A n c) xs) (hn : 0 < n) : ∃ b o, A = some ⟨b, o, none⟩ ∧ ∀ i u, xs[i]? = some u → w.cell? ⟨b, o + i, none⟩ = some (.int .u8 (u.toNat : Int)) := by
 obtain ⟨A', c', he, _, _, h3⟩ := h
 injection he with he1 he2 _
 subst he1
 exact h3 (by omega)

end Go.Proofs.YtbfebljahjmjfaaGreatDoor
/- bytes.Clone (the disk's D2, for a seat that has no disk). -/
namespace Go.Proofs.YtbfebljahjmjfaaGreatDoor
open Go.RowKit
set_option linter.unusedVariables false

theorem u8_info : (Tryz.prog.info? 5).map (fun i => (i.zero, i.size, i.bytes)) = some (some (.int .u8 0), 1, 1) := by kernel_rfl

theorem clone_nil (c : Nat) (w : World) : Calls Tryz.prog 181 #[.slice none 0 c] w fun e w' => e = .returned (.slice none 0 0) ∧ w = w' := by
 have hq := fun (W : World) (a : Option Addr) (n c : Nat) => Lib.run_eql_slice_nil (P := Tryz.prog) W 37 5 a n c 0 0 Tryz.underlying37
 go_enter Tryz.func181, Tryz.ntmps181
 go_wp2
 go_ret
 exact ⟨rfl, rfl⟩

theorem clone_some (ad : Addr) (c : Nat) (xs : List UInt8) (w : World) (hl : xs.length ≤ 140737488351232)
  (hc : ∀ j u, (xs.map bv)[j]? = some u → w.cell? (ad.add j) = some u) :
  Calls Tryz.prog 181 #[.slice (some ad) xs.length c] w fun e w' => ∃ v, e = .returned v ∧ w'.ownsRow w.heap.size 5 1 v xs.length (xs.map bv) ∧ Below w.heap.size w w' ∧ ∃ g, v.ownBlock = some g := by
 have hq := fun (W : World) (a : Option Addr) (n c : Nat) => Lib.run_eql_slice_nil (P := Tryz.prog) W 37 5 a n c 0 0 Tryz.underlying37
 obtain ⟨i0, hi, hz0, hz1, hz2⟩ := info_parts u8_info
 have HC := Lib.hid hc
 clear hc
 have HN : Hid ((xs.map bv).length = xs.length * 1) := by show (xs.map bv).length = _; simp
 have HM : xs.length ≤ maxLen := by unfold maxLen; omega
 have HL := Lib.hid hl
 go_enter Tryz.func181, Tryz.ntmps181
 go_wp2_with (at_builtin; refine wpList_append_own _ rfl _ _ _ rfl w.heap.size 5 i0 _ 1 1 Tryz.underlying37 hi hz0 hz1 hz2 rfl (by decide) (.slice (some ⟨w.heap.size, 0, none⟩) 0 0) 0 [] rfl (World.ownsRow_made w #[] 0 (Nat.le_refl _) (by unfold maxLen; omega) rfl) ad xs.length c (xs.map bv) rfl HN.out (cells_alloc HC.out _) bvs_one (by omega) (by omega) (by simp) ?_; intro v' w1 hown hg hnil)
 go_wp2
 go_ret
 refine ⟨v', rfl, by simpa using hown, ?_, ?_⟩
 ·exact ((Below.refl _ _).alloc (Nat.le_refl _) _).grown hg (by simp) (by simp [Value.ownBlock])
 ·rcases hown.2 with ⟨rfl, _⟩ | ⟨g, cap, cur, rfl, _⟩
  ·simp at hnil
  ·exact ⟨g, rfl⟩

/-- Clone: nil of nil; else a new row with the same bytes. -/
theorem clone_any (v : Value) (xs : List UInt8) (w : World) (hl : xs.length ≤ 140737488351232) (hv : BytesAt w v xs) :
  Calls Tryz.prog 181 #[v] w fun e w' => ∃ A c, e = .returned (.slice A xs.length c) ∧ w'.ownsRow w.heap.size 5 1 (.slice A xs.length c) xs.length (xs.map bv) ∧ Below w.heap.size w w' := by
 have hv0 := hv
 obtain ⟨A, c, rfl, h1, h2, h3⟩ := hv
 rcases A with _ | ad
 ·rcases Nat.eq_zero_or_pos xs.length with h0 | h0
  ·have hx : xs = [] := List.eq_nil_of_length_eq_zero h0
   subst hx
   refine (clone_nil c w).mono ?_
   rintro e w' ⟨rfl, rfl⟩
   exact ⟨_, _, rfl, World.ownsRow_nil _ _ _ _, Below.refl _ _⟩
  ·obtain ⟨_, _, h, _⟩ := h3 h0
   cases h
 ·refine (clone_some ad c xs w hl hv0.cells).mono ?_
  rintro e w' ⟨v', he, ho, hb, _⟩
  obtain ⟨A, c, rfl⟩ := own_slice ho
  exact ⟨A, c, he, ho, hb⟩

end Go.Proofs.YtbfebljahjmjfaaGreatDoor
/- Numbers that came in, as naturals. -/
namespace Go.Proofs.YtbfebljahjmjfaaGreatDoor
open Go.RowKit
set_option linter.unusedVariables false

theorem i64_wf {x : Int} (h : (Lit.int .i64 x).wf = true) : -9223372036854775808 ≤ x ∧ x ≤ 9223372036854775807 := by
 simpa [Lit.wf, IntKind.min, IntKind.max, IntKind.signed, IntKind.bits] using h
end Go.Proofs.YtbfebljahjmjfaaGreatDoor
/- ber: a whole number in as few bytes as there may be (two's complement); slices.Reverse of bytes. -/
namespace Go.Proofs.YtbfebljahjmjfaaGreatDoor
open Go.RowKit
set_option linter.unusedVariables false
set_option linter.unusedSimpArgs false
set_option maxRecDepth 100000

/-- The lowest byte of a number. -/
def n8 (n : Int) : UInt8 := UInt8.ofNat (n % 256).toNat
theorem n8_val (n : Int) : ((n8 n).toNat : Int) = n % 256 := by
 unfold n8
 rw [UInt8.toNat_ofNat']
 have h1 : 0 ≤ n % 256 := Int.emod_nonneg _ (by decide)
 have h2 : n % 256 < 256 := Int.emod_lt_of_pos _ (by decide)
 omega
/-- A number's bytes, the lowest ahead, at most k + 1. -/
def fewL : Nat → Int → List UInt8
 | 0, n => [n8 n]
 | k + 1, n => if -128 ≤ n ∧ n ≤ 127 then [n8 n] else n8 n :: fewL k (n / 256)
theorem fewL_len : ∀ (k : Nat) (n : Int), 1 ≤ (fewL k n).length ∧ (fewL k n).length ≤ k + 1
 | 0, n => by simp [fewL]
 | k + 1, n => by
  have := fewL_len k (n / 256)
  unfold fewL
  split <;> simp <;> omega
/-- A number's bytes, the highest ahead. -/
def fewB (n : Int) : List UInt8 := (fewL 7 n).reverse
theorem fewB_len (n : Int) : 1 ≤ (fewB n).length ∧ (fewB n).length ≤ 8 := by
 unfold fewB
 rw [List.length_reverse]
 exact fewL_len 7 n

theorem few_next {x : Int} {k : Nat} (hk : k ≤ 7) (h1 : -128 * 256 ^ k ≤ x) (h2 : x < 128 * 256 ^ k) (h3 : ¬ (-128 ≤ x ∧ x ≤ 127)) : ∃ j, k = j + 1 ∧ -128 * 256 ^ j ≤ x / 256 ∧ x / 256 < 128 * 256 ^ j := by
 match k, hk with
 | 0, _ => simp at h1 h2; omega
 | 1, _ => refine ⟨0, rfl, ?_, ?_⟩ <;> simp at h1 h2 ⊢ <;> omega
 | 2, _ => refine ⟨1, rfl, ?_, ?_⟩ <;> simp at h1 h2 ⊢ <;> omega
 | 3, _ => refine ⟨2, rfl, ?_, ?_⟩ <;> simp at h1 h2 ⊢ <;> omega
 | 4, _ => refine ⟨3, rfl, ?_, ?_⟩ <;> simp at h1 h2 ⊢ <;> omega
 | 5, _ => refine ⟨4, rfl, ?_, ?_⟩ <;> simp at h1 h2 ⊢ <;> omega
 | 6, _ => refine ⟨5, rfl, ?_, ?_⟩ <;> simp at h1 h2 ⊢ <;> omega
 | 7, _ => refine ⟨6, rfl, ?_, ?_⟩ <;> simp at h1 h2 ⊢ <;> omega
theorem fewL_in {x : Int} (k : Nat) (h : -128 ≤ x ∧ x ≤ 127) : fewL k x = [n8 x] := by
 cases k with
 | zero => rfl
 | succ j => unfold fewL; rw [if_pos h]
theorem fewL_out {x : Int} (j : Nat) (h : ¬ (-128 ≤ x ∧ x ≤ 127)) : fewL (j + 1) x = n8 x :: fewL j (x / 256) := by
 rw [fewL.eq_2, if_neg h]
end Go.Proofs.YtbfebljahjmjfaaGreatDoor
/- ber: common values that hold bytes. -/
namespace Go.Proofs.YtbfebljahjmjfaaGreatDoor
open Go.RowKit Go.Shelf
set_option linter.unusedVariables false
set_option linter.unusedSimpArgs false
set_option maxRecDepth 100000

theorem heap_new8 (w : World) (o : Obj) : (w.alloc o).heap[w.heap.size]? = some o := by
 show (w.heap.push o)[w.heap.size]? = _
 simp
/-- A text as bytes: room and cells left open. -/
theorem conv8 (k : List UInt8) (hk : k.length ≤ 9223372036854775807) : ∃ (C : World → Nat) (O : World → Obj), (∀ W, (convert 9 37 (.string ⟨k.toArray⟩)).run Tryz.prog W = .ok (.slice (some ⟨W.heap.size, 0, none⟩) k.length (C W)) (W.drew.alloc (O W))) ∧ ∀ (W : World), BytesAt (W.drew.alloc (O W)) (.slice (some ⟨W.heap.size, 0, none⟩) k.length (C W)) k := by
 refine ⟨fun W => grownCap W k.length 0 5, fun W => .cells (bytesRow ⟨k.toArray⟩ (grownCap W k.length 0 5)) 5 ((bytesRow ⟨k.toArray⟩ (grownCap W k.length 0 5)).size, (bytesRow ⟨k.toArray⟩ (grownCap W k.length 0 5)).size + 1), fun W => ?_, fun W => ?_⟩
 ·exact run_bytes_of_string W 9 37 5 ⟨k.toArray⟩ Tryz.underlying9 Tryz.underlying37 Tryz.underlying5
 ·refine ⟨_, grownCap W k.length 0 5, rfl, grownCap_ge W _ _ _, grownCap_le_maxLen W _ _ _ (by unfold maxLen; omega), fun _ => ⟨W.heap.size, 0, rfl, fun i u hu => ?_⟩⟩
  have hi : i < k.length := (List.getElem?_eq_some_iff.1 hu).1
  rw [Nat.zero_add]
  unfold World.cell?
  have e := heap_new8 W.drew (.cells (bytesRow ⟨k.toArray⟩ (grownCap W k.length 0 5)) 5 ((bytesRow ⟨k.toArray⟩ (grownCap W k.length 0 5)).size, (bytesRow ⟨k.toArray⟩ (grownCap W k.length 0 5)).size + 1))
  rw [show W.drew.heap.size = W.heap.size from rfl] at e
  rw [e]
  simp only [bytesRow, List.map_toArray]
  rw [Array.getElem?_append_left (by simpa using hi)]
  simp [hu, bv]

theorem five_set {w : World} {g : Nat} {a b c d e v0 v1 v2 v3 v4 : Value} {t : TypeId} (h : w.heap[g]? = some (.cells #[a, b, c, d, e] t (0, 0))) :
  (((((w.setCell ⟨g, 0, none⟩ v0).setCell ⟨g, 1, none⟩ v1).setCell ⟨g, 2, none⟩ v2).setCell ⟨g, 3, none⟩ v3).setCell ⟨g, 4, none⟩ v4).heap[g]? = some (.cells #[v0, v1, v2, v3, v4] t (0, 0)) :=
 heap_setCell_same _ g 4 _ t v4 (heap_setCell_same _ g 3 _ t v3 (heap_setCell_same _ g 2 _ t v2 (heap_setCell_same _ g 1 _ t v1 (heap_setCell_same w g 0 _ t v0 h))))
theorem five_keep {w w2 : World} {bs : List Nat} {g : Nat} {v0 v1 v2 v3 v4 : Value} (h : Keeps bs w w2) (hg : g ∈ bs ∨ w.heap.size ≤ g) :
  Keeps bs w (((((w2.setCell ⟨g, 0, none⟩ v0).setCell ⟨g, 1, none⟩ v1).setCell ⟨g, 2, none⟩ v2).setCell ⟨g, 3, none⟩ v3).setCell ⟨g, 4, none⟩ v4) :=
 ((((h.setCell hg v0).setCell hg v1).setCell hg v2).setCell hg v3).setCell hg v4
theorem five_bytes {w2 : World} {A : Option Addr} {n c : Nat} {xs : List UInt8} {g : Nat} {v0 v1 v2 v3 v4 : Value} (h : BytesAt w2 (.slice A n c) xs) (hg : ∀ b, (Value.slice A n c).ownBlock = some b → b ≠ g) :
  BytesAt (((((w2.setCell ⟨g, 0, none⟩ v0).setCell ⟨g, 1, none⟩ v1).setCell ⟨g, 2, none⟩ v2).setCell ⟨g, 3, none⟩ v3).setCell ⟨g, 4, none⟩ v4) (.slice A n c) xs :=
 h.keep (five_keep (bs := [g]) (Keeps.refl _ _) (.inl (by simp))) (fun b hb hm => hg b hb (List.mem_singleton.1 hm))

/-- How a value lies in a block of its own where nothing is said of it yet. -/
abbrev ber0 : Obj := .cells #[.int .u8 0, .int .u8 0, .bool false, .slice none 0 0, .slice none 0 0] 40
theorem ret_ber {fn : Func} {p : Tmp} {tmps : Array Value} {df : List Deferred} {g : Nat} {cs : Array Value} {fr : Nat × Nat} {w : World} {R : Ending → World → Prop} (h : fn.results = #[.cell p 40]) (hs : cs.size = 5) (hp : tmps.getD p undef = .pointer (some ⟨g, 0, none⟩)) (hg : w.heap[g]? = some (.cells cs 40 fr)) (hd : df = []) (hR : R (.returned (.agg cs)) w) : bodyPost Tryz.prog fn R Exit.ret ⟨tmps, df⟩ w := by
 subst hd
 exact bodyPost_ret (results_cell_row h _ _ g 40 cs fr _ hp hg Tryz.underlying40 rfl (by rw [hs]; kernel_rfl)) rfl hR

theorem holdb_is (num : Nat) (A : Option Addr) (la ca : Nat) (w : World) : Calls Tryz.prog 173 #[.int .u8 (num : Int), .slice A la ca] w fun e w' => e = .returned (.agg #[.int .u8 0, .int .u8 (num : Int), .bool false, .slice A la ca, .slice none 0 0]) ∧ Keeps [] w w' := by
 go_enter Tryz.func173, Tryz.ntmps173
 go_wp2_with fail
 exact ret_ber rfl rfl rfl (heap_new8 w _) rfl ⟨rfl, (Keeps.refl [] w).alloc _⟩

end Go.Proofs.YtbfebljahjmjfaaGreatDoor
/- ber: IntOf, TruthOf. -/
namespace Go.Proofs.YtbfebljahjmjfaaGreatDoor
open Go.RowKit Go.Shelf
set_option linter.unusedVariables false
set_option linter.unusedSimpArgs false
set_option maxRecDepth 100000

theorem conv_bytes {w : World} {v : Value} {xs : List UInt8} (h : BytesAt w v xs) : (convert 37 9 v).run Tryz.prog w = .ok (.string ⟨xs.toArray⟩) w := by
 have h0 := h
 obtain ⟨A, c, rfl, h1, h2, h3⟩ := h
 rcases A with _ | a
 ·have hx : xs = [] := by
   rcases Nat.eq_zero_or_pos xs.length with h | h
   ·exact List.eq_nil_of_length_eq_zero h
   ·obtain ⟨_, _, h, _⟩ := h3 h; cases h
  subst hx
  exact run_convert_bytes_nil w 37 5 Tryz.underlying37 Tryz.underlying5 _ _ 9 Tryz.underlying9
 ·refine run_convert_bytes_back w 37 9 5 a c xs Tryz.underlying37 Tryz.underlying5 Tryz.underlying9 fun j hj => ?_
  exact h0.cells j _ (by simp [List.getElem?_eq_getElem hj, bv])

theorem equal_any (v u : Value) (xs ys : List UInt8) (w : World) (hv : BytesAt w v xs) (hu : BytesAt w u ys) :
  Calls Tryz.prog 185 #[v, u] w fun e w' => e = .returned (.bool (xs == ys)) ∧ w = w' := by
 have h1 := conv_bytes hv
 have h2 := conv_bytes hu
 obtain ⟨A, c, rfl, _⟩ := hv
 obtain ⟨B, d, rfl, _⟩ := hu
 go_enter Tryz.func185, Tryz.ntmps185
 go_wp2
 go_ret
 exact ⟨rfl, rfl⟩

attribute [local go_sem] Oper.semAt_some
theorem BytesAt.from {w : World} {b o n c : Nat} {xs : List UInt8} (h : BytesAt w (.slice (some ⟨b, o, none⟩) n c) xs) {k : Nat} (hk : k ≤ n) : BytesAt w (.slice (some ⟨b, o + k, none⟩) (n - k) (c - k)) (xs.drop k) := by
 obtain ⟨A', c', he, h1, h2, h3⟩ := h
 injection he with he1 he2 he3
 subst he1 he3
 refine ⟨some ⟨b, o + k, none⟩, c - k, by rw [List.length_drop, he2], by rw [List.length_drop]; omega, by omega, fun hp => ?_⟩
 rw [List.length_drop] at hp
 obtain ⟨b', o', hb, hc⟩ := h3 (by omega)
 injection hb with hb
 injection hb with hb1 hb2
 subst hb1 hb2
 refine ⟨b, o + k, rfl, fun i u hu => ?_⟩
 rw [List.getElem?_drop] at hu
 have := hc (k + i) u hu
 rwa [← Nat.add_assoc] at this

theorem BytesAt.part {w : World} {b o n c : Nat} {xs : List UInt8} (h : BytesAt w (.slice (some ⟨b, o, none⟩) n c) xs) {i m : Nat} (hk : i + m ≤ n) (hn : xs.length = n) : BytesAt w (.slice (some ⟨b, o + i, none⟩) m (c - i)) ((xs.drop i).take m) := by
 obtain ⟨A', c', he, h1, h2, h3⟩ := h
 injection he with he1 he2 he3
 subst he1 he3
 have hl : ((xs.drop i).take m).length = m := by rw [List.length_take, List.length_drop]; omega
 refine ⟨some ⟨b, o + i, none⟩, c - i, by rw [hl], by omega, by omega, fun hp => ?_⟩
 obtain ⟨b', o', hb, hc⟩ := h3 (by omega)
 injection hb with hb
 injection hb with hb1 hb2
 subst hb1 hb2
 refine ⟨b, o + i, rfl, fun j u hu => ?_⟩
 rw [List.getElem?_take] at hu
 split at hu
 ·rw [List.getElem?_drop] at hu
  have := hc (i + j) u hu
  rwa [← Nat.add_assoc] at this
 ·cases hu

end Go.Proofs.YtbfebljahjmjfaaGreatDoor
/- dn: small letters, what may be: as words. -/
namespace Go.Proofs.YtbfebljahjmjfaaGreatDoor
open Go.RowKit Go.Shelf
set_option linter.unusedVariables false
set_option linter.unusedSimpArgs false

/-- A byte in small letters. -/
def small1 (c : UInt8) : UInt8 := if 65 ≤ c.toNat ∧ c.toNat ≤ 90 then UInt8.ofNat (c.toNat + 32) else c
def smallL (s : List UInt8) : List UInt8 := s.map small1
theorem small1_nat (c : UInt8) : (small1 c).toNat = if 65 ≤ c.toNat ∧ c.toNat ≤ 90 then c.toNat + 32 else c.toNat := by
 unfold small1
 split
 ·rename_i h
  rw [UInt8.toNat_ofNat']
  omega
 ·rfl
theorem small1_idem (c : UInt8) : small1 (small1 c) = small1 c := by
 apply UInt8.toNat_inj.1
 rw [small1_nat (small1 c)]
 have h := small1_nat c
 split at h <;> rw [h] <;> split <;> omega
theorem smallL_idem (s : List UInt8) : smallL (smallL s) = smallL s := by
 unfold smallL
 rw [List.map_map]
 apply List.map_congr_left
 intro c _
 exact small1_idem c
theorem smallL_len (s : List UInt8) : (smallL s).length = s.length := by simp [smallL]

/-- A small letter. -/
def let1 (c : UInt8) : Bool := decide (97 ≤ c.toNat) && decide (c.toNat ≤ 122)
/-- What may stand in a Type. -/
def typ1 (c : UInt8) : Bool := let1 c || (decide (48 ≤ c.toNat) && decide (c.toNat ≤ 57)) || decide (c.toNat = 45)
def typeOk (s : List UInt8) : Bool := decide (1 ≤ s.length) && (decide (s.length ≤ 64) && ((s.head?.map let1).getD false && s.all typ1))
/-- A part of a name: its Type, its Value. -/
abbrev Part6 := List UInt8 × List UInt8
def partOk (p : Part6) : Bool := typeOk p.1 && (decide (1 ≤ p.2.length) && decide (p.2.length ≤ 200))
def nameOk (d : List Part6) : Bool := decide (d.length ≤ 16) && d.all partOk

end Go.Proofs.YtbfebljahjmjfaaGreatDoor
