
/- A range over a function whose iterator may itself range over one: what lies below the iterator's beginning is the rounds', what lies at or beyond it is the iterator's. -/
import Derived.RangeFuncNested
import Derived.RangeFuncBound
import Derived.RangeFuncCalls
import Derived.RangeFuncLeaves
import Derived.Shelf.Abstract
import Derived.WalkKit
import Derived.OwnWalkIn
import Derived.TacticsInMore
import Derived.LoopNIn
import Derived.LoopIn
namespace Go.Proofs.YtbfebljahjmjfaaGreatDoor
open Go.RowKit Go.Shelf
set_option linter.unusedVariables false

/-- Of what was there, all that lies at n or beyond lies as it lay. -/
structure Over (n : Nat) (w w' : World) : Prop where
  os : w'.os = w.os
  tape : w'.tape = w.tape
  output : w'.output = w.output
  size : w.heap.size ≤ w'.heap.size
  block : ∀ k, n ≤ k → k < w.heap.size → w'.heap[k]? = w.heap[k]?

theorem Over.refl (n : Nat) (w : World) : Over n w w := ⟨rfl, rfl, rfl, Nat.le_refl _, fun _ _ _ => rfl⟩
theorem Over.trans {n : Nat} {a b c : World} (h : Over n a b) (k : Over n b c) : Over n a c :=
  ⟨k.os.trans h.os, k.tape.trans h.tape, k.output.trans h.output, Nat.le_trans h.size k.size, fun i hn hi => (k.block i hn (Nat.lt_of_lt_of_le hi h.size)).trans (h.block i hn hi)⟩
theorem Over.mono {n m : Nat} {a b : World} (h : Over n a b) (hm : n ≤ m) : Over m a b := ⟨h.os, h.tape, h.output, h.size, fun i hi => h.block i (Nat.le_trans hm hi)⟩
theorem Over.cell {n : Nat} {a b : World} (h : Over n a b) {p : Addr} (hn : n ≤ p.block) (hl : p.block < a.heap.size) : b.cell? p = a.cell? p := World.cell?_of_block (h.block _ hn hl)

/-- All that lies below n, and all cells, lie as they lay. -/
structure Kept (n : Nat) (w w' : World) : Prop where
  os : w'.os = w.os
  tape : w'.tape = w.tape
  output : w'.output = w.output
  size : w.heap.size ≤ w'.heap.size
  block : ∀ k o, w.heap[k]? = some o → k < n ∨ o.isCells = true → w'.heap[k]? = some o

theorem Kept.refl (n : Nat) (w : World) : Kept n w w := ⟨rfl, rfl, rfl, Nat.le_refl _, fun _ _ h _ => h⟩
theorem Kept.trans {n : Nat} {a b c : World} (h : Kept n a b) (k : Kept n b c) : Kept n a c :=
  ⟨k.os.trans h.os, k.tape.trans h.tape, k.output.trans h.output, Nat.le_trans h.size k.size, fun i o ho hi => k.block i o (h.block i o ho hi) hi⟩
theorem Kept.mono {n m : Nat} {a b : World} (h : Kept m a b) (hm : n ≤ m) : Kept n a b := ⟨h.os, h.tape, h.output, h.size, fun i o ho hi => h.block i o ho (hi.imp (fun h => Nat.lt_of_lt_of_le h hm) id)⟩
theorem Kept.alloc (n : Nat) (w : World) (o : Obj) : Kept n w (w.alloc o) := ⟨rfl, rfl, rfl, by simp, fun i o' ho _ => (Below.heap_alloc w o i (Array.getElem?_eq_some_iff.1 ho).1).trans ho⟩
theorem Kept.put {n : Nat} {w : World} {l : Nat} {o o' : Obj} (hn : n ≤ l) (h : w.heap[l]? = some o') (ho : o'.isCells = false) : Kept n w (w.putObj l o) :=
  ⟨rfl, rfl, rfl, by simp, fun i x hx hi => by
    have hne : i ≠ l := by
      rintro rfl
      rw [h] at hx
      cases hx
      rcases hi with hi | hi
      · omega
      · rw [ho] at hi; cases hi
    exact (World.putObj_heap_other hne).trans hx⟩
theorem Kept.below {n : Nat} {a b : World} (h : Kept n a b) (hn : n ≤ a.heap.size) : Below n a b :=
  ⟨h.os, h.tape, h.output, h.size, fun i hi => by
    have : i < a.heap.size := by omega
    rw [h.block i a.heap[i] (Array.getElem?_eq_getElem this) (.inl hi), Array.getElem?_eq_getElem this]⟩
theorem Kept.cell {n : Nat} {a b : World} (h : Kept n a b) {p : Addr} {v : Value} (hc : a.cell? p = some v) : b.cell? p = some v := by
  obtain ⟨o, h1, h2⟩ := cells_of_cell hc
  exact (World.cell?_of_block ((h.block _ o h1 (.inr h2)).trans h1.symm)).trans hc

/-- An invariant that an iterator's own steps leave. -/
def Under (n : Nat) (I : World → Prop) : Prop := ∀ A B, I A → Kept n A B → I B

theorem round_wide {m m' : Nat} {P : Program} {l : Nat} {f : FuncId} {tmps : Array Value} {assign body : Code} {w : World} {R : Ending → World → Prop}
    (h : RoundIn Fence.wide m P l f tmps assign body w R) : RoundIn Fence.wide m' P l f tmps assign body w R := ⟨h.1, fun c cs _ => h.2 c cs (room_wide _)⟩

/-- A call of yield. -/
def Asks (P : Program) (l : Nat) (args : Array Value) (W : World) (R : Ending → World → Prop) : Prop := ∀ m, YieldAt Fence.wide m P l args W R
theorem Asks.of {m : Nat} {P : Program} {l : Nat} {args : Array Value} {W : World} {R : Ending → World → Prop} (h : YieldAt Fence.wide m P l args W R) : Asks P l args W R := fun m' => by
  obtain ⟨fn, tmps, assign, body, hy, hR⟩ := h
  exact ⟨fn, tmps, assign, body, hy, round_wide hR⟩

/-- What an iterator promises: it hands out N things one behind the other, the k'th as E says; D stands all the while. Behind the M'th one it must be left. -/
def Seqs (P : Program) (g : Nat) (lb : Array Value) (E : Nat → Array Value → World → Prop) (N M : Nat) (D : World → Prop) : Prop :=
  ∀ (l : Nat) (J Jx : Nat → World → Prop) (W : World), D W → (∀ k, Under W.heap.size (J k)) → (∀ k, Under W.heap.size (Jx k)) →
    (∀ k A args, k < N → J k A → D A → W.heap.size ≤ A.heap.size → E k args A → Asks P l args A fun e B =>
      (e = .returned (.bool true) ∧ k < M ∧ J (k + 1) B ∧ D B ∧ Over W.heap.size A B) ∨ (e = .returned (.bool false) ∧ Jx k B ∧ Over W.heap.size A B)) →
    J 0 W → Calls P g (#[.func (.yield l) #[] #[]] ++ lb) W fun e B => (∃ v, e = .returned v) ∧ ((N ≤ M ∧ J N B) ∨ ∃ k, k < N ∧ Jx k B)

/-- How the body of a round may be left. -/
def seqPost (n M : Nat) (D : World → Prop) (I : Nat → World → Prop) (Ix : Code → Nat → World → Prop) (k : Nat) (W : World) : Exit → Act → World → Prop
  | .normal, _, W' => k < M ∧ I (k + 1) W' ∧ D W' ∧ Over n W W'
  | .ret, _, W' => Ix .ret k W' ∧ Over n W W'
  | .exit id, _, W' => Ix (.exit id) k W' ∧ Over n W W'
  | .goto t, _, W' => Ix (.goto t) k W' ∧ Over n W W'
  | .panic _, _, _ => False
  | .outgrown, _, _ => False

theorem range_seqs {P : Program} {n : Nat} {g : Operand} {ps : Array Tmp} {assign body : Code} {Q : Exit → Act → World → Prop} {a : Act} {w : World} {gf : Nat} {lb : Array Value} {E : Nat → Array Value → World → Prop} {N M : Nat} {D : World → Prop}
    (hg : a.eval g = .func (.func gf) #[] lb) (eg : ∀ args w, (callFunc gf args).run P w = .ok (.enter gf args) w) (hseq : Seqs P gf lb E N M D)
    (hps : ∀ k args W, E k args W → args.size = ps.size) (hD : Under w.heap.size D) (hD0 : D w)
    (I : Nat → World → Prop) (Ix : Code → Nat → World → Prop) (hI : ∀ k, Under w.heap.size (I k)) (hIx : ∀ c k, Under w.heap.size (Ix c k)) (h0 : I 0 w) (a₁ : Array Value → Act)
    (hE : ∀ k args A l o, E k args A → w.heap.size ≤ l → (∃ o', A.heap[l]? = some o' ∧ o'.isCells = false) → E k args (A.putObj l o))
    (hassign : ∀ (l : Nat) (k : Nat) (args : Array Value) (W : World) (K : Act → World → Prop), E k args W → K (a₁ args) W →
      assign.wpIn (Fence.wide.inRound l) 3 P (Exit.then K (fun _ _ _ => False)) { tmps := (ps.zip args).foldl (fun t (p, v) => t.setIfInBounds p v) a.tmps, defers := [] } W)
    (hbody : ∀ (l : Nat) (k : Nat) (args : Array Value) (W : World), k < N → I k W → D W → w.heap.size + 2 ≤ W.heap.size → E k args W → body.wpIn (Fence.wide.inRound l) 3 P (seqPost w.heap.size M D I Ix k W) (a₁ args) W)
    (hdone : ∀ (W : World), N ≤ M → I N W → W.heap[w.heap.size]? = some (.deferred (some [])) → Q .normal { a with defers := { target := .collected w.heap.size, args := #[] } :: a.defers } W)
    (hstop : ∀ (c : Code) (k : Nat) (W : World), k < N → Ix c k W → W.heap[w.heap.size]? = some (.deferred (some [])) → c.wpIn Fence.wide n P Q { a with defers := { target := .collected w.heap.size, args := #[] } :: a.defers } W) :
    (Code.rangeFunc g ps assign body).wpIn Fence.wide n P Q a w := by
  refine wpIn_rangeFunc ?_
  intro fn hfn
  let rec_ : LoopState → Option Code → Loop := fun st pe => { state := st, pending := pe, fn, tmps := a.tmps, params := ps, assign, body, defers := w.heap.size }
  obtain ⟨W1, hW1⟩ : ∃ W1, (w.alloc (.deferred (some []))).alloc (.loop (rec_ .ready none)) = W1 := ⟨_, rfl⟩
  have hz1 : W1.heap.size = w.heap.size + 2 := by rw [← hW1]; simp
  have hb1 : Kept w.heap.size w W1 := by
    rw [← hW1]
    exact (Kept.alloc _ w _).trans (Kept.alloc _ _ _)
  have hL1 : W1.heap[w.heap.size + 1]? = some (.loop (rec_ .ready none)) := by
    rw [← hW1]
    have := World.alloc_heap_new (w.alloc (.deferred (some []))) (.loop (rec_ .ready none))
    rwa [World.size_alloc] at this
  have hK1 : W1.heap[w.heap.size]? = some (.deferred (some [])) := by
    rw [← hW1]
    exact (Below.heap_alloc _ _ _ (by simp)).trans (World.alloc_heap_new w _)
  refine ⟨w.heap.size + 1, [{ target := .collected w.heap.size, args := #[] }], W1, { target := .fn (.func gf) lb, args := #[.func (.yield (w.heap.size + 1)) #[] #[]] }, W1, gf, #[.func (.yield (w.heap.size + 1)) #[] #[]] ++ lb, W1, ?_, ?_, fun _ _ => trivial, ?_, fun h => (by simp [Fence.wide] at h), callsIn_wide.2 ?_⟩
  · rw [← hW1]
    exact run_enterLoop_outer _ _ _ _ _
  · simp only [resolve, hg]
    simp [go_sem]
  · simp [invoke, go_sem, eg]
  have hu : ∀ {X : World → Prop}, Under w.heap.size X → Under W1.heap.size X := fun h A B ha hb => h A B ha (hb.mono (by omega))
  refine (hseq (w.heap.size + 1)
    (fun k W => I k W ∧ W.heap[w.heap.size + 1]? = some (.loop (rec_ .ready none)) ∧ W.heap[w.heap.size]? = some (.deferred (some [])))
    (fun k W => ∃ c, Ix c k W ∧ W.heap[w.heap.size + 1]? = some (.loop (rec_ .done (some c))) ∧ W.heap[w.heap.size]? = some (.deferred (some [])))
    W1 (hD _ _ hD0 hb1)
    (fun k A B h hb => ⟨hu (hI k) A B h.1 hb, hb.block _ _ h.2.1 (.inl (by omega)), hb.block _ _ h.2.2 (.inl (by omega))⟩)
    (fun k A B h hb => by
      obtain ⟨c, h1, h2, h3⟩ := h
      exact ⟨c, hu (hIx c k) A B h1 hb, hb.block _ _ h2 (.inl (by omega)), hb.block _ _ h3 (.inl (by omega))⟩)
    ?_ ⟨hI 0 _ _ h0 hb1, hL1, hK1⟩).mono ?_
  · rintro k A args hk ⟨hi, hl, hd⟩ hDA hz hEA
    refine Asks.of (m := 3) ⟨fn, _, assign, body, run_yield (P := P) (args := args) hl (hps _ _ _ hEA), roundIn_of_wpIn trivial (hassign _ k args A _ hEA ⟨_, run_beginRound hl rfl, ?_⟩)⟩
    have hlt : w.heap.size + 1 < A.heap.size := (Array.getElem?_eq_some_iff.1 hl).1
    obtain ⟨A2, hA2⟩ : ∃ A2, A.putObj (w.heap.size + 1) (.loop { rec_ .ready none with state := .busy }) = A2 := ⟨_, rfl⟩
    have hb2 : Kept w.heap.size A A2 := by rw [← hA2]; exact Kept.put (by omega) hl rfl
    have hl2 : A2.heap[w.heap.size + 1]? = some (.loop { rec_ .ready none with state := .busy }) := by rw [← hA2]; exact World.putObj_heap_same hlt
    have hd2 : A2.heap[w.heap.size]? = some (.deferred (some [])) := by rw [← hA2]; exact (World.putObj_heap_other (by omega)).trans hd
    have hE2 : E k args A2 := by rw [← hA2]; exact hE k args A _ _ hEA (by omega) ⟨_, hl, rfl⟩
    have hz2 : A2.heap.size = A.heap.size := by rw [← hA2]; exact World.putObj_size
    have ho2 : Over W1.heap.size A A2 := ⟨hb2.os, hb2.tape, hb2.output, hb2.size, fun i hi _ => by rw [← hA2]; exact World.putObj_heap_other (by omega)⟩
    rw [hA2]
    have over3 : ∀ {B : World} {o : Obj}, Over w.heap.size A2 B → Over W1.heap.size A (B.putObj (w.heap.size + 1) o) := fun {B o} h =>
      (ho2.trans (h.mono (by omega))).trans ⟨rfl, rfl, rfl, by simp, fun i hi _ => World.putObj_heap_other (by omega)⟩
    refine wpIn_mono (hbody _ k args A2 hk (hI k _ _ hi hb2) (hD _ _ hDA hb2) (by omega) hE2) ?_
    have fin : ∀ (jump : Option Code) (B : World), Over w.heap.size A2 B → (Instr.endRound (w.heap.size + 1) jump).run P B = .ok (.bool jump.isNone) (B.putObj (w.heap.size + 1) (.loop (rec_ (if jump.isNone then .ready else .done) jump))) ∧
        (B.putObj (w.heap.size + 1) (.loop (rec_ (if jump.isNone then .ready else .done) jump))).heap[w.heap.size + 1]? = some (.loop (rec_ (if jump.isNone then .ready else .done) jump)) ∧
        (B.putObj (w.heap.size + 1) (.loop (rec_ (if jump.isNone then .ready else .done) jump))).heap[w.heap.size]? = some (.deferred (some [])) ∧ Kept w.heap.size B (B.putObj (w.heap.size + 1) (.loop (rec_ (if jump.isNone then .ready else .done) jump))) := fun jump B hB => by
      have hl3 := (hB.block (w.heap.size + 1) (by omega) (by omega)).trans hl2
      exact ⟨run_endRound (P := P) jump hl3, World.putObj_heap_same (Array.getElem?_eq_some_iff.1 hl3).1, (World.putObj_heap_other (by omega)).trans ((hB.block _ (Nat.le_refl _) (by omega)).trans hd2), Kept.put (by omega) hl3 rfl⟩
    rintro e a3 B hp
    cases e with
    | normal =>
      obtain ⟨hm, hi3, hd3, hB⟩ := hp
      obtain ⟨hr, hl4, hd4, hb4⟩ := fin none B hB
      exact ⟨_, _, hr, .inl ⟨rfl, hm, ⟨hI _ _ _ hi3 hb4, hl4, hd4⟩, hD _ _ hd3 hb4, over3 hB⟩⟩
    | ret =>
      obtain ⟨hi3, hB⟩ := hp
      obtain ⟨hr, hl4, hd4, hb4⟩ := fin (some .ret) B hB
      exact ⟨_, _, hr, .inr ⟨rfl, ⟨.ret, hIx _ _ _ _ hi3 hb4, hl4, hd4⟩, over3 hB⟩⟩
    | exit id =>
      obtain ⟨hi3, hB⟩ := hp
      obtain ⟨hr, hl4, hd4, hb4⟩ := fin (some (.exit id)) B hB
      exact ⟨_, _, hr, .inr ⟨rfl, ⟨.exit id, hIx _ _ _ _ hi3 hb4, hl4, hd4⟩, over3 hB⟩⟩
    | goto t =>
      obtain ⟨hi3, hB⟩ := hp
      obtain ⟨hr, hl4, hd4, hb4⟩ := fin (some (.goto t)) B hB
      exact ⟨_, _, hr, .inr ⟨rfl, ⟨.goto t, hIx _ _ _ _ hi3 hb4, hl4, hd4⟩, over3 hB⟩⟩
    | panic ch => exact hp.elim
    | outgrown => exact hp.elim
  · rintro e B ⟨⟨v, rfl⟩, (⟨hNM, hi, hl, hd⟩ | ⟨k, hk, c, hi, hl, hd⟩)⟩
    · have hlt : w.heap.size + 1 < B.heap.size := (Array.getElem?_eq_some_iff.1 hl).1
      exact ⟨none, _, run_endLoop (P := P) hl (by simp [rec_]), hdone _ hNM (hI _ _ _ hi (Kept.put (by omega) hl rfl)) ((World.putObj_heap_other (by omega)).trans hd)⟩
    · have hlt : w.heap.size + 1 < B.heap.size := (Array.getElem?_eq_some_iff.1 hl).1
      exact ⟨some c, _, run_endLoop (P := P) hl (by simp [rec_]), hstop c k _ hk (hIx _ _ _ _ hi (Kept.put (by omega) hl rfl)) ((World.putObj_heap_other (by omega)).trans hd)⟩

end Go.Proofs.YtbfebljahjmjfaaGreatDoor
