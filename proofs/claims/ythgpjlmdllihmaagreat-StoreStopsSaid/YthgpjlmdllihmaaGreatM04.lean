/- Texts of one proof, laid together: F1 G3 F2 F3 F4 F5. -/
import Derived.Test.YthgpjlmdllihmaaGreatM02
import Derived.RangeFuncNested
import Derived.RangeFuncBound
import Derived.RangeFuncCalls
import Derived.RangeFuncLeaves
import Derived.Shelf.Abstract
import Derived.WalkKit
import Derived.OwnWalkIn
import Derived.TacticsInMore
import Derived.LoopNIn
import Derived.LoopIn
import Derived.Test.YthgpjlmdllihmaaGreatM03
/- Frames, as lists of bytes. -/
namespace Go.Proofs.YthgpjlmdllihmaaGreat
open Go.RowKit
set_option linter.unusedVariables false

/-- The number of the first four bytes, the lowest ahead. -/
def num4 (xs : List UInt8) : Nat := (xs[0]?.getD 0).toNat + 256 * (xs[1]?.getD 0).toNat + 65536 * (xs[2]?.getD 0).toNat + 16777216 * (xs[3]?.getD 0).toNat
/-- A number's four bytes. -/
def four (n : Nat) : List UInt8 := [UInt8.ofNat n, UInt8.ofNat (n / 256), UInt8.ofNat (n / 65536), UInt8.ofNat (n / 16777216)]

theorem four_len (n : Nat) : (four n).length = 4 := rfl
theorem num4_lt (xs : List UInt8) : num4 xs < 4294967296 := by
  have h0 := (xs[0]?.getD 0).toNat_lt
  have h1 := (xs[1]?.getD 0).toNat_lt
  have h2 := (xs[2]?.getD 0).toNat_lt
  have h3 := (xs[3]?.getD 0).toNat_lt
  unfold num4
  omega
theorem num4_four {n : Nat} (h : n < 4294967296) (xs : List UInt8) : num4 (four n ++ xs) = n := by
  simp only [num4, four, List.cons_append, List.nil_append, List.getElem?_cons_zero, List.getElem?_cons_succ, Option.getD_some, UInt8.toNat_ofNat']
  omega

/-- The record that bytes begin with, if they begin with a frame. -/
def recOf (xs : List UInt8) : List UInt8 := (xs.drop 8).take (num4 xs - 1)
/-- Do bytes begin with a frame? -/
def framed (xs : List UInt8) : Bool :=
  decide (8 ≤ xs.length) && (decide (1 ≤ num4 xs ∧ num4 xs ≤ 32769) && (decide (num4 (xs.drop 4) = 4294967295 - num4 xs) && (decide (num4 xs + 11 ≤ xs.length) && decide (num4 (xs.drop (7 + num4 xs)) = crcSum (recOf xs)))))
/-- A record's frame. -/
def frameOf (r : List UInt8) : List UInt8 := four (r.length + 1) ++ (four (4294967295 - (r.length + 1)) ++ (r ++ four (crcSum r)))

theorem framed_iff {xs : List UInt8} : framed xs = true ↔ 8 ≤ xs.length ∧ 1 ≤ num4 xs ∧ num4 xs ≤ 32769 ∧ num4 (xs.drop 4) = 4294967295 - num4 xs ∧ num4 xs + 11 ≤ xs.length ∧ num4 (xs.drop (7 + num4 xs)) = crcSum (recOf xs) := by
  simp only [framed, Bool.and_eq_true, decide_eq_true_eq]
  constructor
  · rintro ⟨a, ⟨b, c⟩, d, e, f⟩; exact ⟨a, b, c, d, e, f⟩
  · rintro ⟨a, b, c, d, e, f⟩; exact ⟨a, ⟨b, c⟩, d, e, f⟩

theorem recOf_len {xs : List UInt8} (h : framed xs = true) : (recOf xs).length = num4 xs - 1 ∧ (recOf xs).length + 12 ≤ xs.length ∧ num4 xs = (recOf xs).length + 1 := by
  obtain ⟨a, b, c, d, e, f⟩ := framed_iff.1 h
  have : (recOf xs).length = num4 xs - 1 := by
    unfold recOf
    rw [List.length_take, List.length_drop]
    omega
  omega

theorem crcSum_lt (l : List UInt8) : crcSum l < 4294967296 := by unfold crcSum; omega
theorem frameOf_len (r : List UInt8) : (frameOf r).length = r.length + 12 := by
  simp [frameOf, four_len]
  omega
theorem frameOf_num {r : List UInt8} (h : r.length ≤ 32768) (s : List UInt8) : num4 (frameOf r ++ s) = r.length + 1 := by
  unfold frameOf
  rw [List.append_assoc]
  exact num4_four (by omega) _
theorem frameOf_rec {r : List UInt8} (h : r.length ≤ 32768) (s : List UInt8) : recOf (frameOf r ++ s) = r := by
  unfold recOf
  rw [frameOf_num h]
  have e : frameOf r ++ s = (four (r.length + 1) ++ four (4294967295 - (r.length + 1))) ++ (r ++ (four (crcSum r) ++ s)) := by simp [frameOf]
  rw [e, List.drop_left' (by simp [four_len]), Nat.add_sub_cancel, List.take_left' rfl]
theorem frameOf_framed {r : List UInt8} (h : r.length ≤ 32768) (s : List UInt8) : framed (frameOf r ++ s) = true := by
  rw [framed_iff]
  rw [frameOf_num h, frameOf_rec h]
  refine ⟨by rw [List.length_append, frameOf_len]; omega, by omega, by omega, ?_, by rw [List.length_append, frameOf_len]; omega, ?_⟩
  · have e : frameOf r ++ s = four (r.length + 1) ++ (four (4294967295 - (r.length + 1)) ++ (r ++ (four (crcSum r) ++ s))) := by simp [frameOf]
    rw [e, List.drop_left' (four_len _)]
    exact num4_four (by omega) _
  · have e : frameOf r ++ s = (four (r.length + 1) ++ (four (4294967295 - (r.length + 1)) ++ r)) ++ (four (crcSum r) ++ s) := by simp [frameOf]
    rw [e, List.drop_left' (by simp [four_len]; omega)]
    exact num4_four (crcSum_lt r) _

/-- The records of some bytes. -/
def recsN : Nat → List UInt8 → List (List UInt8)
  | 0, _ => []
  | n + 1, xs => if framed xs then recOf xs :: recsN n (xs.drop ((recOf xs).length + 12)) else []
def recs (xs : List UInt8) : List (List UInt8) := recsN xs.length xs
/-- How many bytes the frames of records have. -/
def offs (l : List (List UInt8)) : Nat := (l.map fun r => r.length + 12).sum

theorem recsN_any : ∀ (n m : Nat) (xs : List UInt8), xs.length ≤ n → xs.length ≤ m → recsN n xs = recsN m xs
  | 0, 0, _, _, _ => rfl
  | 0, m + 1, xs, h, _ => by
    have : framed xs = false := by
      rw [Bool.eq_false_iff]
      intro hf
      have := (framed_iff.1 hf).1
      omega
    simp [recsN, this]
  | n + 1, 0, xs, _, h => by
    have : framed xs = false := by
      rw [Bool.eq_false_iff]
      intro hf
      have := (framed_iff.1 hf).1
      omega
    simp [recsN, this]
  | n + 1, m + 1, xs, h, h' => by
    by_cases hf : framed xs = true
    · simp only [recsN, hf, if_true]
      rw [recsN_any n m]
      · rw [List.length_drop]; omega
      · rw [List.length_drop]; omega
    · simp [recsN, hf]

theorem recs_cons {xs : List UInt8} (h : framed xs = true) : recs xs = recOf xs :: recs (xs.drop ((recOf xs).length + 12)) := by
  have h8 := (framed_iff.1 h).1
  unfold recs
  rw [recsN_any xs.length (xs.length + 1) xs (Nat.le_refl _) (by omega)]
  simp only [recsN, h, if_true]
  rw [recsN_any xs.length _ _ (by rw [List.length_drop]; omega) (Nat.le_refl _)]
theorem recs_nil {xs : List UInt8} (h : framed xs = false) : recs xs = [] := by
  unfold recs
  cases hn : xs.length with
  | zero => rfl
  | succ n => simp [recsN, h]

theorem offs_snoc (l : List (List UInt8)) (r : List UInt8) : offs (l ++ [r]) = offs l + (r.length + 12) := by simp [offs]
theorem offs_cons (l : List (List UInt8)) (r : List UInt8) : offs (r :: l) = (r.length + 12) + offs l := by simp [offs]

/-- What stands behind the first records. -/
theorem recs_at (xs : List UInt8) : ∀ k, k ≤ (recs xs).length → offs ((recs xs).take k) ≤ xs.length ∧ recs (xs.drop (offs ((recs xs).take k))) = (recs xs).drop k := by
  intro k
  induction k with
  | zero => intro _; simp [offs]
  | succ k ih =>
    intro hk
    obtain ⟨h1, h2⟩ := ih (by omega)
    have hr : (recs xs).drop k = (recs xs)[k] :: (recs xs).drop (k + 1) := (List.drop_eq_getElem_cons (by omega))
    rw [hr] at h2
    have hf : framed (xs.drop (offs ((recs xs).take k))) = true := by
      cases hc : framed (xs.drop (offs ((recs xs).take k)))
      · rw [recs_nil hc] at h2; cases h2
      · rfl
    have hl := recOf_len hf
    rw [recs_cons hf] at h2
    injection h2 with h3 h4
    have ht : (recs xs).take (k + 1) = (recs xs).take k ++ [(recs xs)[k]] := List.take_succ_eq_append_getElem (by omega)
    rw [ht, offs_snoc, ← h3]
    rw [List.length_drop] at hl
    rw [List.drop_drop] at h4
    exact ⟨by omega, h4⟩

/-- At the k'th place there stands the k'th record's frame; behind the last one there is none. -/
theorem recs_some {xs : List UInt8} {k : Nat} (hk : k < (recs xs).length) : framed (xs.drop (offs ((recs xs).take k))) = true ∧ recOf (xs.drop (offs ((recs xs).take k))) = (recs xs)[k] ∧ offs ((recs xs).take (k + 1)) = offs ((recs xs).take k) + ((recs xs)[k].length + 12) := by
  obtain ⟨h1, h2⟩ := recs_at xs k (by omega)
  have hr : (recs xs).drop k = (recs xs)[k] :: (recs xs).drop (k + 1) := (List.drop_eq_getElem_cons (by omega))
  rw [hr] at h2
  have hf : framed (xs.drop (offs ((recs xs).take k))) = true := by
    cases hc : framed (xs.drop (offs ((recs xs).take k)))
    · rw [recs_nil hc] at h2; cases h2
    · rfl
  rw [recs_cons hf] at h2
  injection h2 with h3 h4
  refine ⟨hf, h3, ?_⟩
  rw [List.take_succ_eq_append_getElem hk, offs_snoc]
theorem recs_none (xs : List UInt8) : framed (xs.drop (offs (recs xs))) = false := by
  have := (recs_at xs (recs xs).length (Nat.le_refl _)).2
  rw [List.take_length, List.drop_length] at this
  cases hc : framed (xs.drop (offs (recs xs)))
  · rfl
  · rw [recs_cons hc] at this; cases this
theorem offs_le (xs : List UInt8) (k : Nat) : offs ((recs xs).take k) ≤ xs.length := by
  by_cases hk : k ≤ (recs xs).length
  · exact (recs_at xs k hk).1
  · rw [List.take_of_length_le (by omega)]
    have := (recs_at xs _ (Nat.le_refl _)).1
    rwa [List.take_length] at this
theorem recs_short {xs : List UInt8} {r : List UInt8} (h : r ∈ recs xs) : r.length ≤ 32768 := by
  obtain ⟨i, hi, rfl⟩ := List.mem_iff_getElem.1 h
  obtain ⟨hf, h2, _⟩ := recs_some hi
  rw [← h2]
  have := recOf_len hf
  have := (framed_iff.1 hf).2.2.1
  omega

/-- Frames, one behind the other, and what stands behind them. -/
def joinF (l : List (List UInt8)) : List UInt8 := l.flatMap frameOf
theorem joinF_len (l : List (List UInt8)) : (joinF l).length = offs l := by
  induction l with
  | nil => rfl
  | cons r l ih => rw [offs_cons, ← ih, joinF, List.flatMap_cons, List.length_append, frameOf_len]; rfl
theorem recs_joinF : ∀ (l : List (List UInt8)) (s : List UInt8), (∀ r ∈ l, r.length ≤ 32768) → recs (joinF l ++ s) = l ++ recs s
  | [], s, _ => rfl
  | r :: l, s, h => by
    have e : joinF (r :: l) ++ s = frameOf r ++ (joinF l ++ s) := by simp [joinF]
    have hr := h r (by simp)
    rw [e, recs_cons (frameOf_framed hr _), frameOf_rec hr, List.drop_left' (frameOf_len r), recs_joinF l s (fun x hx => h x (by simp [hx]))]
    rfl
theorem recs_noughts (n : Nat) : recs (List.replicate n 0) = [] := by
  apply recs_nil
  rw [Bool.eq_false_iff]
  intro hf
  have h := (framed_iff.1 hf).2.1
  have hz : ∀ i : Nat, ((List.replicate n (0 : UInt8))[i]?.getD 0) = 0 := by
    intro i
    by_cases hi : i < n
    · simp [hi]
    · rw [List.getElem?_eq_none (by simpa using hi)]; rfl
  unfold num4 at h
  rw [hz, hz, hz, hz] at h
  simp at h

end Go.Proofs.YthgpjlmdllihmaaGreat
/- A range over a function whose iterator may itself range over one: what lies below the iterator's beginning is the rounds', what lies at or beyond it is the iterator's. -/
namespace Go.Proofs.YthgpjlmdllihmaaGreat
open Go.RowKit Go.Shelf
set_option linter.unusedVariables false

/-- Of what was there, all that lies at n or beyond lies as it lay. -/
structure Over (n : Nat) (w w' : World) : Prop where
  os : w'.os = w.os
  tape : w'.tape = w.tape
  output : w'.output = w.output
  size : w.heap.size ≤ w'.heap.size
  block : ∀ k, n ≤ k → k < w.heap.size → w'.heap[k]? = w.heap[k]?

theorem Over.refl (n : Nat) (w : World) : Over n w w := ⟨rfl, rfl, rfl, Nat.le_refl _, fun _ _ _ => rfl⟩
theorem Over.trans {n : Nat} {a b c : World} (h : Over n a b) (k : Over n b c) : Over n a c :=
  ⟨k.os.trans h.os, k.tape.trans h.tape, k.output.trans h.output, Nat.le_trans h.size k.size, fun i hn hi => (k.block i hn (Nat.lt_of_lt_of_le hi h.size)).trans (h.block i hn hi)⟩
theorem Over.mono {n m : Nat} {a b : World} (h : Over n a b) (hm : n ≤ m) : Over m a b := ⟨h.os, h.tape, h.output, h.size, fun i hi => h.block i (Nat.le_trans hm hi)⟩
theorem Over.cell {n : Nat} {a b : World} (h : Over n a b) {p : Addr} (hn : n ≤ p.block) (hl : p.block < a.heap.size) : b.cell? p = a.cell? p := World.cell?_of_block (h.block _ hn hl)

/-- All that lies below n, and all cells, lie as they lay. -/
structure Kept (n : Nat) (w w' : World) : Prop where
  os : w'.os = w.os
  tape : w'.tape = w.tape
  output : w'.output = w.output
  size : w.heap.size ≤ w'.heap.size
  block : ∀ k o, w.heap[k]? = some o → k < n ∨ o.isCells = true → w'.heap[k]? = some o

theorem Kept.refl (n : Nat) (w : World) : Kept n w w := ⟨rfl, rfl, rfl, Nat.le_refl _, fun _ _ h _ => h⟩
theorem Kept.trans {n : Nat} {a b c : World} (h : Kept n a b) (k : Kept n b c) : Kept n a c :=
  ⟨k.os.trans h.os, k.tape.trans h.tape, k.output.trans h.output, Nat.le_trans h.size k.size, fun i o ho hi => k.block i o (h.block i o ho hi) hi⟩
theorem Kept.mono {n m : Nat} {a b : World} (h : Kept m a b) (hm : n ≤ m) : Kept n a b := ⟨h.os, h.tape, h.output, h.size, fun i o ho hi => h.block i o ho (hi.imp (fun h => Nat.lt_of_lt_of_le h hm) id)⟩
theorem Kept.alloc (n : Nat) (w : World) (o : Obj) : Kept n w (w.alloc o) := ⟨rfl, rfl, rfl, by simp, fun i o' ho _ => (Below.heap_alloc w o i (Array.getElem?_eq_some_iff.1 ho).1).trans ho⟩
theorem Kept.put {n : Nat} {w : World} {l : Nat} {o o' : Obj} (hn : n ≤ l) (h : w.heap[l]? = some o') (ho : o'.isCells = false) : Kept n w (w.putObj l o) :=
  ⟨rfl, rfl, rfl, by simp, fun i x hx hi => by
    have hne : i ≠ l := by
      rintro rfl
      rw [h] at hx
      cases hx
      rcases hi with hi | hi
      · omega
      · rw [ho] at hi; cases hi
    exact (World.putObj_heap_other hne).trans hx⟩
theorem Kept.below {n : Nat} {a b : World} (h : Kept n a b) (hn : n ≤ a.heap.size) : Below n a b :=
  ⟨h.os, h.tape, h.output, h.size, fun i hi => by
    have : i < a.heap.size := by omega
    rw [h.block i a.heap[i] (Array.getElem?_eq_getElem this) (.inl hi), Array.getElem?_eq_getElem this]⟩
theorem Kept.cell {n : Nat} {a b : World} (h : Kept n a b) {p : Addr} {v : Value} (hc : a.cell? p = some v) : b.cell? p = some v := by
  obtain ⟨o, h1, h2⟩ := cells_of_cell hc
  exact (World.cell?_of_block ((h.block _ o h1 (.inr h2)).trans h1.symm)).trans hc

/-- An invariant that an iterator's own steps leave. -/
def Under (n : Nat) (I : World → Prop) : Prop := ∀ A B, I A → Kept n A B → I B

theorem round_wide {m m' : Nat} {P : Program} {l : Nat} {f : FuncId} {tmps : Array Value} {assign body : Code} {w : World} {R : Ending → World → Prop}
    (h : RoundIn Fence.wide m P l f tmps assign body w R) : RoundIn Fence.wide m' P l f tmps assign body w R := ⟨h.1, fun c cs _ => h.2 c cs (room_wide _)⟩

/-- A call of yield. -/
def Asks (P : Program) (l : Nat) (args : Array Value) (W : World) (R : Ending → World → Prop) : Prop := ∀ m, YieldAt Fence.wide m P l args W R
theorem Asks.of {m : Nat} {P : Program} {l : Nat} {args : Array Value} {W : World} {R : Ending → World → Prop} (h : YieldAt Fence.wide m P l args W R) : Asks P l args W R := fun m' => by
  obtain ⟨fn, tmps, assign, body, hy, hR⟩ := h
  exact ⟨fn, tmps, assign, body, hy, round_wide hR⟩

/-- What an iterator promises: it hands out N things one behind the other, the k'th as E says; D stands all the while. Behind the M'th one it must be left. -/
def Seqs (P : Program) (g : Nat) (lb : Array Value) (E : Nat → Array Value → World → Prop) (N M : Nat) (D : World → Prop) : Prop :=
  ∀ (l : Nat) (J Jx : Nat → World → Prop) (W : World), D W → (∀ k, Under W.heap.size (J k)) → (∀ k, Under W.heap.size (Jx k)) →
    (∀ k A args, k < N → J k A → D A → W.heap.size ≤ A.heap.size → E k args A → Asks P l args A fun e B =>
      (e = .returned (.bool true) ∧ k < M ∧ J (k + 1) B ∧ D B ∧ Over W.heap.size A B) ∨ (e = .returned (.bool false) ∧ Jx k B ∧ Over W.heap.size A B)) →
    J 0 W → Calls P g (#[.func (.yield l) #[] #[]] ++ lb) W fun e B => (∃ v, e = .returned v) ∧ ((N ≤ M ∧ J N B) ∨ ∃ k, k < N ∧ Jx k B)

/-- How the body of a round may be left. -/
def seqPost (n M : Nat) (D : World → Prop) (I : Nat → World → Prop) (Ix : Code → Nat → World → Prop) (k : Nat) (W : World) : Exit → Act → World → Prop
  | .normal, _, W' => k < M ∧ I (k + 1) W' ∧ D W' ∧ Over n W W'
  | .ret, _, W' => Ix .ret k W' ∧ Over n W W'
  | .exit id, _, W' => Ix (.exit id) k W' ∧ Over n W W'
  | .goto t, _, W' => Ix (.goto t) k W' ∧ Over n W W'
  | .panic _, _, _ => False
  | .outgrown, _, _ => False

theorem range_seqs {P : Program} {n : Nat} {g : Operand} {ps : Array Tmp} {assign body : Code} {Q : Exit → Act → World → Prop} {a : Act} {w : World} {gf : Nat} {lb : Array Value} {E : Nat → Array Value → World → Prop} {N M : Nat} {D : World → Prop}
    (hg : a.eval g = .func (.func gf) #[] lb) (eg : ∀ args w, (callFunc gf args).run P w = .ok (.enter gf args) w) (hseq : Seqs P gf lb E N M D)
    (hps : ∀ k args W, E k args W → args.size = ps.size) (hD : Under w.heap.size D) (hD0 : D w)
    (I : Nat → World → Prop) (Ix : Code → Nat → World → Prop) (hI : ∀ k, Under w.heap.size (I k)) (hIx : ∀ c k, Under w.heap.size (Ix c k)) (h0 : I 0 w) (a₁ : Array Value → Act)
    (hE : ∀ k args A l o, E k args A → w.heap.size ≤ l → (∃ o', A.heap[l]? = some o' ∧ o'.isCells = false) → E k args (A.putObj l o))
    (hassign : ∀ (l : Nat) (k : Nat) (args : Array Value) (W : World) (K : Act → World → Prop), E k args W → K (a₁ args) W →
      assign.wpIn (Fence.wide.inRound l) 3 P (Exit.then K (fun _ _ _ => False)) { tmps := (ps.zip args).foldl (fun t (p, v) => t.setIfInBounds p v) a.tmps, defers := [] } W)
    (hbody : ∀ (l : Nat) (k : Nat) (args : Array Value) (W : World), k < N → I k W → D W → w.heap.size + 2 ≤ W.heap.size → E k args W → body.wpIn (Fence.wide.inRound l) 3 P (seqPost w.heap.size M D I Ix k W) (a₁ args) W)
    (hdone : ∀ (W : World), N ≤ M → I N W → W.heap[w.heap.size]? = some (.deferred (some [])) → Q .normal { a with defers := { target := .collected w.heap.size, args := #[] } :: a.defers } W)
    (hstop : ∀ (c : Code) (k : Nat) (W : World), k < N → Ix c k W → W.heap[w.heap.size]? = some (.deferred (some [])) → c.wpIn Fence.wide n P Q { a with defers := { target := .collected w.heap.size, args := #[] } :: a.defers } W) :
    (Code.rangeFunc g ps assign body).wpIn Fence.wide n P Q a w := by
  refine wpIn_rangeFunc ?_
  intro fn hfn
  let rec_ : LoopState → Option Code → Loop := fun st pe => { state := st, pending := pe, fn, tmps := a.tmps, params := ps, assign, body, defers := w.heap.size }
  obtain ⟨W1, hW1⟩ : ∃ W1, (w.alloc (.deferred (some []))).alloc (.loop (rec_ .ready none)) = W1 := ⟨_, rfl⟩
  have hz1 : W1.heap.size = w.heap.size + 2 := by rw [← hW1]; simp
  have hb1 : Kept w.heap.size w W1 := by
    rw [← hW1]
    exact (Kept.alloc _ w _).trans (Kept.alloc _ _ _)
  have hL1 : W1.heap[w.heap.size + 1]? = some (.loop (rec_ .ready none)) := by
    rw [← hW1]
    have := World.alloc_heap_new (w.alloc (.deferred (some []))) (.loop (rec_ .ready none))
    rwa [World.size_alloc] at this
  have hK1 : W1.heap[w.heap.size]? = some (.deferred (some [])) := by
    rw [← hW1]
    exact (Below.heap_alloc _ _ _ (by simp)).trans (World.alloc_heap_new w _)
  refine ⟨w.heap.size + 1, [{ target := .collected w.heap.size, args := #[] }], W1, { target := .fn (.func gf) lb, args := #[.func (.yield (w.heap.size + 1)) #[] #[]] }, W1, gf, #[.func (.yield (w.heap.size + 1)) #[] #[]] ++ lb, W1, ?_, ?_, fun _ _ => trivial, ?_, fun h => (by simp [Fence.wide] at h), callsIn_wide.2 ?_⟩
  · rw [← hW1]
    exact run_enterLoop_outer _ _ _ _ _
  · simp only [resolve, hg]
    simp [go_sem]
  · simp [invoke, go_sem, eg]
  have hu : ∀ {X : World → Prop}, Under w.heap.size X → Under W1.heap.size X := fun h A B ha hb => h A B ha (hb.mono (by omega))
  refine (hseq (w.heap.size + 1)
    (fun k W => I k W ∧ W.heap[w.heap.size + 1]? = some (.loop (rec_ .ready none)) ∧ W.heap[w.heap.size]? = some (.deferred (some [])))
    (fun k W => ∃ c, Ix c k W ∧ W.heap[w.heap.size + 1]? = some (.loop (rec_ .done (some c))) ∧ W.heap[w.heap.size]? = some (.deferred (some [])))
    W1 (hD _ _ hD0 hb1)
    (fun k A B h hb => ⟨hu (hI k) A B h.1 hb, hb.block _ _ h.2.1 (.inl (by omega)), hb.block _ _ h.2.2 (.inl (by omega))⟩)
    (fun k A B h hb => by
      obtain ⟨c, h1, h2, h3⟩ := h
      exact ⟨c, hu (hIx c k) A B h1 hb, hb.block _ _ h2 (.inl (by omega)), hb.block _ _ h3 (.inl (by omega))⟩)
    ?_ ⟨hI 0 _ _ h0 hb1, hL1, hK1⟩).mono ?_
  · rintro k A args hk ⟨hi, hl, hd⟩ hDA hz hEA
    refine Asks.of (m := 3) ⟨fn, _, assign, body, run_yield (P := P) (args := args) hl (hps _ _ _ hEA), roundIn_of_wpIn trivial (hassign _ k args A _ hEA ⟨_, run_beginRound hl rfl, ?_⟩)⟩
    have hlt : w.heap.size + 1 < A.heap.size := (Array.getElem?_eq_some_iff.1 hl).1
    obtain ⟨A2, hA2⟩ : ∃ A2, A.putObj (w.heap.size + 1) (.loop { rec_ .ready none with state := .busy }) = A2 := ⟨_, rfl⟩
    have hb2 : Kept w.heap.size A A2 := by rw [← hA2]; exact Kept.put (by omega) hl rfl
    have hl2 : A2.heap[w.heap.size + 1]? = some (.loop { rec_ .ready none with state := .busy }) := by rw [← hA2]; exact World.putObj_heap_same hlt
    have hd2 : A2.heap[w.heap.size]? = some (.deferred (some [])) := by rw [← hA2]; exact (World.putObj_heap_other (by omega)).trans hd
    have hE2 : E k args A2 := by rw [← hA2]; exact hE k args A _ _ hEA (by omega) ⟨_, hl, rfl⟩
    have hz2 : A2.heap.size = A.heap.size := by rw [← hA2]; exact World.putObj_size
    have ho2 : Over W1.heap.size A A2 := ⟨hb2.os, hb2.tape, hb2.output, hb2.size, fun i hi _ => by rw [← hA2]; exact World.putObj_heap_other (by omega)⟩
    rw [hA2]
    have over3 : ∀ {B : World} {o : Obj}, Over w.heap.size A2 B → Over W1.heap.size A (B.putObj (w.heap.size + 1) o) := fun {B o} h =>
      (ho2.trans (h.mono (by omega))).trans ⟨rfl, rfl, rfl, by simp, fun i hi _ => World.putObj_heap_other (by omega)⟩
    refine wpIn_mono (hbody _ k args A2 hk (hI k _ _ hi hb2) (hD _ _ hDA hb2) (by omega) hE2) ?_
    have fin : ∀ (jump : Option Code) (B : World), Over w.heap.size A2 B → (Instr.endRound (w.heap.size + 1) jump).run P B = .ok (.bool jump.isNone) (B.putObj (w.heap.size + 1) (.loop (rec_ (if jump.isNone then .ready else .done) jump))) ∧
        (B.putObj (w.heap.size + 1) (.loop (rec_ (if jump.isNone then .ready else .done) jump))).heap[w.heap.size + 1]? = some (.loop (rec_ (if jump.isNone then .ready else .done) jump)) ∧
        (B.putObj (w.heap.size + 1) (.loop (rec_ (if jump.isNone then .ready else .done) jump))).heap[w.heap.size]? = some (.deferred (some [])) ∧ Kept w.heap.size B (B.putObj (w.heap.size + 1) (.loop (rec_ (if jump.isNone then .ready else .done) jump))) := fun jump B hB => by
      have hl3 := (hB.block (w.heap.size + 1) (by omega) (by omega)).trans hl2
      exact ⟨run_endRound (P := P) jump hl3, World.putObj_heap_same (Array.getElem?_eq_some_iff.1 hl3).1, (World.putObj_heap_other (by omega)).trans ((hB.block _ (Nat.le_refl _) (by omega)).trans hd2), Kept.put (by omega) hl3 rfl⟩
    rintro e a3 B hp
    cases e with
    | normal =>
      obtain ⟨hm, hi3, hd3, hB⟩ := hp
      obtain ⟨hr, hl4, hd4, hb4⟩ := fin none B hB
      exact ⟨_, _, hr, .inl ⟨rfl, hm, ⟨hI _ _ _ hi3 hb4, hl4, hd4⟩, hD _ _ hd3 hb4, over3 hB⟩⟩
    | ret =>
      obtain ⟨hi3, hB⟩ := hp
      obtain ⟨hr, hl4, hd4, hb4⟩ := fin (some .ret) B hB
      exact ⟨_, _, hr, .inr ⟨rfl, ⟨.ret, hIx _ _ _ _ hi3 hb4, hl4, hd4⟩, over3 hB⟩⟩
    | exit id =>
      obtain ⟨hi3, hB⟩ := hp
      obtain ⟨hr, hl4, hd4, hb4⟩ := fin (some (.exit id)) B hB
      exact ⟨_, _, hr, .inr ⟨rfl, ⟨.exit id, hIx _ _ _ _ hi3 hb4, hl4, hd4⟩, over3 hB⟩⟩
    | goto t =>
      obtain ⟨hi3, hB⟩ := hp
      obtain ⟨hr, hl4, hd4, hb4⟩ := fin (some (.goto t)) B hB
      exact ⟨_, _, hr, .inr ⟨rfl, ⟨.goto t, hIx _ _ _ _ hi3 hb4, hl4, hd4⟩, over3 hB⟩⟩
    | panic ch => exact hp.elim
    | outgrown => exact hp.elim
  · rintro e B ⟨⟨v, rfl⟩, (⟨hNM, hi, hl, hd⟩ | ⟨k, hk, c, hi, hl, hd⟩)⟩
    · have hlt : w.heap.size + 1 < B.heap.size := (Array.getElem?_eq_some_iff.1 hl).1
      exact ⟨none, _, run_endLoop (P := P) hl (by simp [rec_]), hdone _ hNM (hI _ _ _ hi (Kept.put (by omega) hl rfl)) ((World.putObj_heap_other (by omega)).trans hd)⟩
    · have hlt : w.heap.size + 1 < B.heap.size := (Array.getElem?_eq_some_iff.1 hl).1
      exact ⟨some c, _, run_endLoop (P := P) hl (by simp [rec_]), hstop c k _ hk (hIx _ _ _ _ hi (Kept.put (by omega) hl rfl)) ((World.putObj_heap_other (by omega)).trans hd)⟩

end Go.Proofs.YthgpjlmdllihmaaGreat
/- frames: numbers of four bytes, read. -/
namespace Go.Proofs.YthgpjlmdllihmaaGreat
open Go.RowKit
set_option linter.unusedVariables false

/-- The number of the first j bytes. -/
def numP (xs : List UInt8) : Nat → Nat
  | 0 => 0
  | j + 1 => numP xs j + 2 ^ (8 * j) * (xs[j]?.getD 0).toNat
theorem numP_four (xs : List UInt8) : numP xs 4 = num4 xs := by
  simp only [numP, num4]
  omega
theorem numP_lt (xs : List UInt8) : ∀ j, numP xs j < 2 ^ (8 * j)
  | 0 => by simp [numP]
  | j + 1 => by
    have h := numP_lt xs j
    have hu := (xs[j]?.getD 0).toNat_lt
    have : 2 ^ (8 * (j + 1)) = 256 * 2 ^ (8 * j) := by rw [show 8 * (j + 1) = 8 + 8 * j by omega, Nat.pow_add]
    simp only [numP]
    rw [this]
    have h2 : 2 ^ (8 * j) * (xs[j]?.getD 0).toNat ≤ 2 ^ (8 * j) * 255 := Nat.mul_le_mul_left _ (by omega)
    omega
theorem or_next {a u k : Nat} (ha : a < 2 ^ k) (hu : u < 256) (hk : k ≤ 24) : bits .or .u32 (a : Int) ((u : Int) * (2 ^ k : Nat)) = ((a + 2 ^ k * u : Nat) : Int) := by
  have hp : 2 ^ k ≤ 16777216 := by
    have := Nat.pow_le_pow_right (n := 2) (by decide) hk
    simpa using this
  have hm : 2 ^ k * u ≤ 16777216 * 255 := Nat.mul_le_mul hp (by omega)
  have h1 := u32_or_nat a (2 ^ k * u) (by omega) (by omega)
  rw [Nat.or_comm, ← Nat.two_pow_add_eq_or_of_lt ha, Nat.add_comm] at h1
  rw [← h1]
  congr 1
  rw [Int.natCast_mul, Int.mul_comm]

theorem num_head (A : Option Addr) (n c : Nat) (xs : List UInt8) (w : World) (hn : xs.length = n) (hb : BytesAt w (.slice A n c) xs) (h4 : 4 ≤ n) (hm : n ≤ 9223372036854775807) : Calls Tryz.prog 120 #[.slice A n c] w fun e w' => e = .returned (.int .u32 (num4 xs : Nat)) ∧ w = w' := by
  have HB := Lib.hid hb
  have HN := Lib.hid hn
  clear hb hn
  go_enter Tryz.func120, Tryz.ntmps120
  go_wp2
  go_loopw [3, 4, 5] (fun v iv i wr => ∃ j x : Nat, i = .int .i64 (j : Int) ∧ j ≤ 4 ∧ v = .int .u32 (x : Int) ∧ Hid (x = numP xs j) ∧ wr = w) (fun _ _ i _ => 4 - (intOf i).toNat)
  case atStart => exact ⟨0, 0, rfl, Nat.zero_le _, rfl, rfl, rfl⟩
  case round =>
    obtain ⟨j, x, rfl, hj, rfl, HX, rfl⟩ := hrel
    by_cases hlt : j < 4
    · have hnx := HN.out
      have hu : xs[j]? = some (xs[j]'(by omega)) := List.getElem?_eq_getElem _
      obtain ⟨b, o, rfl, hc⟩ := bytes_addr HB.out (by omega)
      have c0 := hc j _ hu
      have hx2 : x < 2 ^ (8 * j) := by rw [HX.out]; exact numP_lt xs j
      have HS : Hid (x + 2 ^ (8 * j) * (xs[j]'(by omega)).toNat = numP xs (j + 1)) := by
        show _ = _
        rw [HX.out]
        simp only [numP, hu, Option.getD_some]
      generalize xs[j]'(by omega) = u at *
      have hu8 : u.toNat < 256 := u.toNat_lt
      have ho := or_next hx2 hu8 (by omega)
      clear hc hu HB HX
      rcases (show j = 0 ∨ j = 1 ∨ j = 2 ∨ j = 3 by omega) with rfl | rfl | rfl | rfl
      · have h1 : Hid (x + 2 ^ (8 * 0) * u.toNat = numP xs 1) := HS
        replace ho : bits .or .u32 (x : Int) ((u.toNat : Int)) = ((x + 2 ^ (8 * 0) * u.toNat : Nat) : Int) := by simpa using ho
        rw [Nat.add_zero] at c0
        go_wp2_with fail
        go_roundw
        case rel => exact ⟨1, x + 2 ^ (8 * 0) * u.toNat, by go_num, by omega, by simp, h1, trivial⟩
        case measure => simp [intOf]
      · have h1 : Hid (x + 2 ^ (8 * 1) * u.toNat = numP xs 2) := HS
        replace ho : bits .or .u32 (x : Int) ((u.toNat : Int) * 256) = ((x + 2 ^ (8 * 1) * u.toNat : Nat) : Int) := by simpa using ho
        go_wp2_with fail
        go_roundw
        case rel => exact ⟨2, x + 2 ^ (8 * 1) * u.toNat, by go_num, by omega, by simp, h1, trivial⟩
        case measure => simp [intOf]
      · have h1 : Hid (x + 2 ^ (8 * 2) * u.toNat = numP xs 3) := HS
        replace ho : bits .or .u32 (x : Int) ((u.toNat : Int) * 65536) = ((x + 2 ^ (8 * 2) * u.toNat : Nat) : Int) := by simpa using ho
        go_wp2_with fail
        go_roundw
        case rel => exact ⟨3, x + 2 ^ (8 * 2) * u.toNat, by go_num, by omega, by simp, h1, trivial⟩
        case measure => simp [intOf]
      · have h1 : Hid (x + 2 ^ (8 * 3) * u.toNat = numP xs 4) := HS
        replace ho : bits .or .u32 (x : Int) ((u.toNat : Int) * 16777216) = ((x + 2 ^ (8 * 3) * u.toNat : Nat) : Int) := by simpa using ho
        go_wp2_with fail
        go_roundw
        case rel => exact ⟨4, x + 2 ^ (8 * 3) * u.toNat, by go_num, by omega, by simp, h1, trivial⟩
        case measure => simp [intOf]
    · have e4 : Hid (((x : Nat) : Int) = ((num4 xs : Nat) : Int)) := by
        show _ = _
        have : j = 4 := by omega
        rw [HX.out, this, numP_four]
      go_wp2_with fail
      go_ret
      exact ⟨by rw [e4.out]; rfl, rfl⟩

theorem num_u32 (A : Option Addr) (n c : Nat) (xs : List UInt8) (w : World) (hn : xs.length = n) (hb : BytesAt w (.slice A n c) xs) (h4 : 4 ≤ n) (hm : n ≤ 9223372036854775807) : Calls Tryz.prog 122 #[.slice A n c] w fun e w' => e = .returned (.int .u32 (num4 xs : Nat)) ∧ w = w' := by
  have HB := Lib.hid hb
  have HN := Lib.hid hn
  clear hb hn
  go_enter Tryz.func122, Tryz.ntmps122
  go_wp2
  go_loopw [3, 4, 5] (fun v iv i wr => ∃ j x : Nat, i = .int .i64 (j : Int) ∧ j ≤ 4 ∧ v = .int .u32 (x : Int) ∧ Hid (x = numP xs j) ∧ wr = w) (fun _ _ i _ => 4 - (intOf i).toNat)
  case atStart => exact ⟨0, 0, rfl, Nat.zero_le _, rfl, rfl, rfl⟩
  case round =>
    obtain ⟨j, x, rfl, hj, rfl, HX, rfl⟩ := hrel
    by_cases hlt : j < 4
    · have hnx := HN.out
      have hu : xs[j]? = some (xs[j]'(by omega)) := List.getElem?_eq_getElem _
      obtain ⟨b, o, rfl, hc⟩ := bytes_addr HB.out (by omega)
      have c0 := hc j _ hu
      have hx2 : x < 2 ^ (8 * j) := by rw [HX.out]; exact numP_lt xs j
      have HS : Hid (x + 2 ^ (8 * j) * (xs[j]'(by omega)).toNat = numP xs (j + 1)) := by
        show _ = _
        rw [HX.out]
        simp only [numP, hu, Option.getD_some]
      generalize xs[j]'(by omega) = u at *
      have hu8 : u.toNat < 256 := u.toNat_lt
      have ho := or_next hx2 hu8 (by omega)
      clear hc hu HB HX
      rcases (show j = 0 ∨ j = 1 ∨ j = 2 ∨ j = 3 by omega) with rfl | rfl | rfl | rfl
      · have h1 : Hid (x + 2 ^ (8 * 0) * u.toNat = numP xs 1) := HS
        replace ho : bits .or .u32 (x : Int) ((u.toNat : Int)) = ((x + 2 ^ (8 * 0) * u.toNat : Nat) : Int) := by simpa using ho
        rw [Nat.add_zero] at c0
        go_wp2_with fail
        go_roundw
        case rel => exact ⟨1, x + 2 ^ (8 * 0) * u.toNat, by go_num, by omega, by simp, h1, trivial⟩
        case measure => simp [intOf]
      · have h1 : Hid (x + 2 ^ (8 * 1) * u.toNat = numP xs 2) := HS
        replace ho : bits .or .u32 (x : Int) ((u.toNat : Int) * 256) = ((x + 2 ^ (8 * 1) * u.toNat : Nat) : Int) := by simpa using ho
        go_wp2_with fail
        go_roundw
        case rel => exact ⟨2, x + 2 ^ (8 * 1) * u.toNat, by go_num, by omega, by simp, h1, trivial⟩
        case measure => simp [intOf]
      · have h1 : Hid (x + 2 ^ (8 * 2) * u.toNat = numP xs 3) := HS
        replace ho : bits .or .u32 (x : Int) ((u.toNat : Int) * 65536) = ((x + 2 ^ (8 * 2) * u.toNat : Nat) : Int) := by simpa using ho
        go_wp2_with fail
        go_roundw
        case rel => exact ⟨3, x + 2 ^ (8 * 2) * u.toNat, by go_num, by omega, by simp, h1, trivial⟩
        case measure => simp [intOf]
      · have h1 : Hid (x + 2 ^ (8 * 3) * u.toNat = numP xs 4) := HS
        replace ho : bits .or .u32 (x : Int) ((u.toNat : Int) * 16777216) = ((x + 2 ^ (8 * 3) * u.toNat : Nat) : Int) := by simpa using ho
        go_wp2_with fail
        go_roundw
        case rel => exact ⟨4, x + 2 ^ (8 * 3) * u.toNat, by go_num, by omega, by simp, h1, trivial⟩
        case measure => simp [intOf]
    · have e4 : Hid (((x : Nat) : Int) = ((num4 xs : Nat) : Int)) := by
        show _ = _
        have : j = 4 := by omega
        rw [HX.out, this, numP_four]
      go_wp2_with fail
      go_ret
      exact ⟨by rw [e4.out]; rfl, rfl⟩

end Go.Proofs.YthgpjlmdllihmaaGreat
/- frames: the head of a frame, and what it says. -/
namespace Go.Proofs.YthgpjlmdllihmaaGreat
open Go.RowKit
set_option linter.unusedVariables false

theorem ret_bool3 {a b : Bool} (h : a = b) : Ending.returned (.bool a) = .returned (.bool b) := by rw [h]

theorem head_in (A : Option Addr) (n c : Nat) (xs : List UInt8) (w : World) (hn : xs.length = n) (hb : BytesAt w (.slice A n c) xs) (h4 : 4 ≤ n) (hm : n ≤ 9223372036854775807) : Calls Tryz.prog 106 #[.slice A n c] w fun e w' => e = .returned (.int .u32 (num4 xs : Nat)) ∧ w = w' := by
  go_enter Tryz.func106, Tryz.ntmps106
  go_wp2_with fail
  refine (num_head A n c xs w hn hb h4 hm).mono ?_
  rintro e w' ⟨rfl, rfl⟩
  go_wp2_with fail
  go_ret
  exact ⟨rfl, rfl⟩

theorem head_of (A : Option Addr) (n c : Nat) (w : World) (hm : n ≤ 32768) : Calls Tryz.prog 89 #[.slice A n c] w fun e w' => e = .returned (.int .u32 ((n + 1 : Nat) : Int)) ∧ w = w' := by
  go_enter Tryz.func89, Tryz.ntmps89
  go_wp2_with fail
  go_ret
  exact ⟨by go_num, rfl⟩

theorem length_of (h : Nat) (w : World) (h1 : 1 ≤ h) (h2 : h < 4294967296) : Calls Tryz.prog 112 #[.int .u32 (h : Int)] w fun e w' => e = .returned (.int .i64 ((h - 1 : Nat) : Int)) ∧ w = w' := by
  go_enter Tryz.func112, Tryz.ntmps112
  go_wp2_with fail
  go_ret
  exact ⟨by go_num, rfl⟩

theorem frame_size (h : Nat) (w : World) (h1 : 1 ≤ h) (h2 : h < 4294967296) : Calls Tryz.prog 90 #[.int .u32 (h : Int)] w fun e w' => e = .returned (.int .i64 ((h + 11 : Nat) : Int)) ∧ w = w' := by
  go_enter Tryz.func90, Tryz.ntmps90
  go_wp2_with fail
  refine (length_of h w h1 h2).mono ?_
  rintro e w' ⟨rfl, rfl⟩
  go_wp2_with fail
  go_ret
  exact ⟨by go_num, rfl⟩

theorem ones_xor4 {x : Nat} (h : x < 4294967296) : 4294967295 ^^^ x = 4294967295 - x := by
  refine Nat.eq_of_testBit_eq fun i => ?_
  rw [Nat.testBit_xor, show (4294967295 : Nat) = 2 ^ 32 - 1 from rfl, Nat.testBit_two_pow_sub_one, show 2 ^ 32 - 1 - x = 2 ^ 32 - (x + 1) by omega, Nat.testBit_two_pow_sub_succ h]
  by_cases hi : i < 32
  · simp [hi]
  · have : x.testBit i = false := Nat.testBit_lt_two_pow (Nat.lt_of_lt_of_le h (Nat.pow_le_pow_right (show 0 < 2 by decide) (by omega : 32 ≤ i)))
    simp [hi, this]

theorem ones_bits4 {x : Nat} (h : x < 4294967296) : bits .xor .u32 IntKind.u32.max (x : Int) = ((4294967295 - x : Nat) : Int) := by
  have := u32_xor_nat 4294967295 x (by decide) h
  rw [ones_xor4 h] at this
  exact this

theorem turned_of (h : Nat) (w : World) (h2 : h < 4294967296) : Calls Tryz.prog 121 #[.int .u32 (h : Int)] w fun e w' => e = .returned (.int .u32 ((4294967295 - h : Nat) : Int)) ∧ w = w' := by
  have b0 := ones_bits4 h2
  go_enter Tryz.func121, Tryz.ntmps121
  go_wp2_with fail
  go_ret
  exact ⟨by rw [← b0]; rfl, rfl⟩

theorem has_head (A : Option Addr) (n c : Nat) (w : World) (hm : n ≤ 9223372036854775807) : Calls Tryz.prog 107 #[.slice A n c] w fun e w' => e = .returned (.bool (decide (8 ≤ n))) ∧ w = w' := by
  go_enter Tryz.func107, Tryz.ntmps107
  go_wp2_with fail
  go_ret
  exact ⟨ret_bool3 (decide_eq_decide.2 (by omega)), rfl⟩

theorem within_ok (A : Option Addr) (n c : Nat) (xs : List UInt8) (w : World) (hn : xs.length = n) (hb : BytesAt w (.slice A n c) xs) (h4 : 8 ≤ n) (hm : n ≤ 9223372036854775807) : Calls Tryz.prog 108 #[.slice A n c] w fun e w' => e = .returned (.bool (decide (1 ≤ num4 xs ∧ num4 xs ≤ 32769))) ∧ w = w' := by
  have HI := fun w (hb : BytesAt w (.slice A n c) xs) => head_in A n c xs w hn hb (by omega) hm
  have HB := Lib.hid hb
  have hl := num4_lt xs
  clear hb
  generalize num4 xs = h at *
  by_cases h1 : 1 ≤ h
  · go_enter Tryz.func108, Tryz.ntmps108
    go_wp2_with fail
    refine (HI w HB.out).mono ?_
    rintro e w' ⟨rfl, rfl⟩
    go_wp2_with fail
    refine (HI w HB.out).mono ?_
    rintro e w' ⟨rfl, rfl⟩
    go_wp2_with fail
    go_ret
    exact ⟨ret_bool3 (decide_eq_decide.2 (by omega)), rfl⟩
  · go_enter Tryz.func108, Tryz.ntmps108
    go_wp2_with fail
    refine (HI w HB.out).mono ?_
    rintro e w' ⟨rfl, rfl⟩
    go_wp2_with fail
    go_ret
    exact ⟨ret_bool3 (by simp), rfl⟩

/-- What stands from a place on. -/
theorem BytesAt.from {w : World} {b o n c : Nat} {xs : List UInt8} (h : BytesAt w (.slice (some ⟨b, o, none⟩) n c) xs) {k : Nat} (hk : k ≤ n) : BytesAt w (.slice (some ⟨b, o + k, none⟩) (n - k) (c - k)) (xs.drop k) := by
  obtain ⟨A', c', he, h1, h2, h3⟩ := h
  injection he with he1 he2 he3
  subst he1 he3
  refine ⟨some ⟨b, o + k, none⟩, c - k, by rw [List.length_drop, he2], by rw [List.length_drop]; omega, by omega, fun hp => ?_⟩
  rw [List.length_drop] at hp
  obtain ⟨b', o', hb, hc⟩ := h3 (by omega)
  injection hb with hb
  injection hb with hb1 hb2
  subst hb1 hb2
  refine ⟨b, o + k, rfl, fun i u hu => ?_⟩
  rw [List.getElem?_drop] at hu
  have := hc (k + i) u hu
  rwa [← Nat.add_assoc] at this

/-- What stands from one place to another. -/
theorem BytesAt.part {w : World} {b o n c : Nat} {xs : List UInt8} (h : BytesAt w (.slice (some ⟨b, o, none⟩) n c) xs) {i m : Nat} (hk : i + m ≤ n) (hn : xs.length = n) : BytesAt w (.slice (some ⟨b, o + i, none⟩) m (c - i)) ((xs.drop i).take m) := by
  obtain ⟨A', c', he, h1, h2, h3⟩ := h
  injection he with he1 he2 he3
  subst he1 he3
  have hl : ((xs.drop i).take m).length = m := by rw [List.length_take, List.length_drop]; omega
  refine ⟨some ⟨b, o + i, none⟩, c - i, by rw [hl], by omega, by omega, fun hp => ?_⟩
  obtain ⟨b', o', hb, hc⟩ := h3 (by omega)
  injection hb with hb
  injection hb with hb1 hb2
  subst hb1 hb2
  refine ⟨b, o + i, rfl, fun j u hu => ?_⟩
  rw [List.getElem?_take] at hu
  split at hu
  · rw [List.getElem?_drop] at hu
    have := hc (i + j) u hu
    rwa [← Nat.add_assoc] at this
  · cases hu

theorem turned_ok (A : Option Addr) (n c : Nat) (xs : List UInt8) (w : World) (hn : xs.length = n) (hb : BytesAt w (.slice A n c) xs) (h4 : 8 ≤ n) (hm : n ≤ 9223372036854775807) (hc : c ≤ 9223372036854775807) : Calls Tryz.prog 109 #[.slice A n c] w fun e w' => e = .returned (.bool (decide (num4 (xs.drop 4) = 4294967295 - num4 xs))) ∧ w = w' := by
  obtain ⟨b, o, rfl, _⟩ := bytes_addr hb (by omega)
  have hcap : n ≤ c := by
    obtain ⟨A', c', he, h1, _⟩ := hb
    injection he with _ _ he3
    omega
  have HI := fun w (hb : BytesAt w (.slice (some ⟨b, o, none⟩) n c) xs) => head_in (some ⟨b, o, none⟩) n c xs w hn hb (by omega) hm
  have HN := num_head (some ⟨b, o + 4, none⟩) (n - 4) (c - 4) (xs.drop 4) w (by rw [List.length_drop]; omega) (hb.from (by omega)) (by omega) (by omega)
  have HB := Lib.hid hb
  have hl := num4_lt xs
  have hl2 := num4_lt (xs.drop 4)
  clear hb
  generalize num4 xs = h at *
  generalize num4 (xs.drop 4) = h' at *
  go_enter Tryz.func109, Tryz.ntmps109
  go_wp2_with fail
  refine HN.mono ?_
  rintro e w' ⟨rfl, rfl⟩
  go_wp2_with fail
  refine (HI w HB.out).mono ?_
  rintro e w' ⟨rfl, rfl⟩
  go_wp2_with fail
  refine (turned_of h w hl).mono ?_
  rintro e w' ⟨rfl, rfl⟩
  go_wp2_with fail
  go_ret
  exact ⟨ret_bool3 (by rw [Bool.eq_iff_iff, beq_iff_eq, decide_eq_true_eq]; omega), rfl⟩

theorem has_all (A : Option Addr) (n c : Nat) (xs : List UInt8) (w : World) (hn : xs.length = n) (hb : BytesAt w (.slice A n c) xs) (h4 : 8 ≤ n) (h1 : 1 ≤ num4 xs) (hm : n ≤ 9223372036854775807) : Calls Tryz.prog 110 #[.slice A n c] w fun e w' => e = .returned (.bool (decide (num4 xs + 11 ≤ n))) ∧ w = w' := by
  have HI := fun w (hb : BytesAt w (.slice A n c) xs) => head_in A n c xs w hn hb (by omega) hm
  have HB := Lib.hid hb
  have hl := num4_lt xs
  clear hb
  generalize num4 xs = h at *
  go_enter Tryz.func110, Tryz.ntmps110
  go_wp2_with fail
  refine (HI w HB.out).mono ?_
  rintro e w' ⟨rfl, rfl⟩
  go_wp2_with fail
  refine (frame_size h w h1 hl).mono ?_
  rintro e w' ⟨rfl, rfl⟩
  go_wp2_with fail
  go_ret
  exact ⟨ret_bool3 (decide_eq_decide.2 (by omega)), rfl⟩

theorem record_in (b o n c : Nat) (xs : List UInt8) (w : World) (hn : xs.length = n) (hb : BytesAt w (.slice (some ⟨b, o, none⟩) n c) xs) (h4 : 8 ≤ n) (h1 : 1 ≤ num4 xs) (h2 : num4 xs + 11 ≤ n) (hc : n ≤ c) (hm : c ≤ 9223372036854775807) : Calls Tryz.prog 88 #[.slice (some ⟨b, o, none⟩) n c] w fun e w' => e = .returned (.slice (some ⟨b, o + 8, none⟩) (num4 xs - 1) (c - 8)) ∧ w = w' := by
  have HI := fun w (hb : BytesAt w (.slice (some ⟨b, o, none⟩) n c) xs) => head_in (some ⟨b, o, none⟩) n c xs w hn hb (by omega) (by omega)
  have HB := Lib.hid hb
  have hl := num4_lt xs
  clear hb
  generalize num4 xs = h at *
  go_enter Tryz.func88, Tryz.ntmps88
  go_wp2_with fail
  refine (HI w HB.out).mono ?_
  rintro e w' ⟨rfl, rfl⟩
  go_wp2_with fail
  refine (length_of h w h1 hl).mono ?_
  rintro e w' ⟨rfl, rfl⟩
  go_wp2_with fail
  go_ret
  exact ⟨congrArg (fun k => Ending.returned (.slice (some ⟨b, o + 8, none⟩) k (c - 8))) (show 8 + (h - 1) - 8 = h - 1 by omega), rfl⟩

end Go.Proofs.YthgpjlmdllihmaaGreat
/- frames: is the sum of a frame that of its record? what bytes must be. -/
namespace Go.Proofs.YthgpjlmdllihmaaGreat
open Go.RowKit
set_option linter.unusedVariables false

theorem cap_of_bytes {w : World} {A : Option Addr} {n c : Nat} {xs : List UInt8} (h : BytesAt w (.slice A n c) xs) : n ≤ c ∧ c ≤ 9223372036854775807 ∧ n = xs.length := by
  obtain ⟨A', c', he, h1, h2, _⟩ := h
  injection he with he1 he2 he3
  unfold maxLen at h2
  omega

theorem sum_right (b o n c : Nat) (xs : List UInt8) (w : World) (hn : xs.length = n) (hb : BytesAt w (.slice (some ⟨b, o, none⟩) n c) xs) (h4 : 8 ≤ n) (h1 : 1 ≤ num4 xs) (h2 : num4 xs + 11 ≤ n) : Calls Tryz.prog 111 #[.slice (some ⟨b, o, none⟩) n c] w fun e w' => e = .returned (.bool (decide (num4 (xs.drop (7 + num4 xs)) = crcSum (recOf xs)))) ∧ Keeps [] w w' := by
  obtain ⟨hnc, hcm, hxx⟩ := cap_of_bytes hb
  clear hxx
  have RI := record_in b o n c xs w hn hb h4 h1 h2 hnc hcm
  have NU := num_u32 (some ⟨b, o + (7 + num4 xs), none⟩) (n - (7 + num4 xs)) (c - (7 + num4 xs)) (xs.drop (7 + num4 xs)) w (by rw [List.length_drop]; omega) (hb.from (by omega)) (by omega) (by omega)
  have hl := num4_lt xs
  have hl2 := num4_lt (xs.drop (7 + num4 xs))
  have hrl : (recOf xs).length = num4 xs - 1 := by unfold recOf; rw [List.length_take, List.length_drop]; omega
  have BR : BytesAt w (.slice (some ⟨b, o + 8, none⟩) (recOf xs).length (c - 8)) (recOf xs) := by
    rw [hrl]
    exact hb.part (by omega) hn
  have P1 := one_part BR (by omega)
  have SU := csum (some ⟨w.heap.size, 0, none⟩) 1 1 _ _ P1 (by decide) trivial
  rw [hrl] at P1 SU
  have hsl := crcSum_lt (recOf xs)
  have HSU := Lib.hid SU
  have e8 : Hid ((8 : Int) + ((num4 xs - 1 : Nat) : Int) = ((7 + num4 xs : Nat) : Int)) := by show _ = _; omega
  have flat1 : (List.flatMap (fun x : Part => x.bs) [⟨some ⟨b, o + 8, none⟩, c - 8, recOf xs⟩]) = recOf xs := by simp
  rw [flat1] at SU
  have HS := Lib.hid SU
  clear SU HSU hb BR P1 flat1 hrl
  generalize crcSum (recOf xs) = s at *
  generalize num4 (xs.drop (7 + num4 xs)) = s' at *
  generalize num4 xs = h at *
  go_enter Tryz.func111, Tryz.ntmps111
  go_wp2_with fail
  refine RI.mono ?_
  rintro e w' ⟨rfl, rfl⟩
  go_wp2_with fail
  rw [show 8 + (h - 1) = 7 + h by omega]
  refine NU.mono ?_
  rintro e w' ⟨rfl, rfl⟩
  go_wp2_with fail
  refine HS.out.mono ?_
  rintro e w1 ⟨rfl, hk1⟩
  have HK : Hid (Keeps [] w w1) := ((Keeps.refl [] w).alloc _).trans' hk1
  clear hk1
  go_wp2_with fail
  go_ret
  exact ⟨ret_bool3 (by rw [Bool.eq_iff_iff, beq_iff_eq, decide_eq_true_eq]; omega), HK.out⟩

/-- The conditions, as they lie in an array. -/
theorem conds_is (w : World) : Calls Tryz.prog 87 #[] w fun e w' => e = .returned (.agg #[.func (.func 107) #[] #[], .func (.func 108) #[] #[], .func (.func 109) #[] #[], .func (.func 110) #[] #[], .func (.func 111) #[] #[]]) ∧ Keeps [] w w' := by
  go_enter Tryz.func87, Tryz.ntmps87
  go_wp2_with fail
  exact bodyPost_ret (results_cell_row rfl _ _ w.heap.size 143 _ (0, 0) _ rfl (heap_alloc_new' w _) Tryz.underlying143 rfl (by kernel_rfl)) rfl ⟨rfl, (Keeps.refl [] w).alloc _⟩

end Go.Proofs.YthgpjlmdllihmaaGreat
/- frames: numbers of four bytes, written. -/
namespace Go.Proofs.YthgpjlmdllihmaaGreat
open Go.RowKit
set_option linter.unusedVariables false

/-- The cells, j bytes of a number being written. -/
def wcs (h : Nat) : Nat → Array Value
  | 0 => #[.int .u8 0, .int .u8 0, .int .u8 0, .int .u8 0]
  | 1 => #[.int .u8 ((h : Int) % 256), .int .u8 0, .int .u8 0, .int .u8 0]
  | 2 => #[.int .u8 ((h : Int) % 256), .int .u8 ((h : Int) / 256 % 256), .int .u8 0, .int .u8 0]
  | 3 => #[.int .u8 ((h : Int) % 256), .int .u8 ((h : Int) / 256 % 256), .int .u8 ((h : Int) / 65536 % 256), .int .u8 0]
  | _ => #[.int .u8 ((h : Int) % 256), .int .u8 ((h : Int) / 256 % 256), .int .u8 ((h : Int) / 65536 % 256), .int .u8 ((h : Int) / 16777216)]

theorem wcs_four {h : Nat} (hl : h < 4294967296) : wcs h 4 = ((four h).map bv).toArray := by
  have e : ∀ k : Nat, bv (UInt8.ofNat k) = .int .u8 ((k % 256 : Nat) : Int) := fun k => by simp [bv, UInt8.toNat_ofNat']
  have e3 : h / 16777216 % 256 = h / 16777216 := by omega
  simp only [wcs, four, List.map_cons, List.map_nil, e, e3]
  simp

theorem bytes_head (h : Nat) (w : World) (hl : h < 4294967296) : Calls Tryz.prog 125 #[.int .u32 (h : Int)] w fun e w' => e = .returned (.slice (some ⟨w.heap.size, 0, none⟩) 4 4) ∧ w' = w.alloc (.cells ((four h).map bv).toArray 5) := by
  have hmk : ∀ w, (Instr.makeSlice 55 (.int .i64 4) (.int .i64 4)).run Tryz.prog w = .ok (.slice (some ⟨w.heap.size, 0, none⟩) 4 4) (w.alloc (.cells #[.int .u8 0, .int .u8 0, .int .u8 0, .int .u8 0] 5)) := fun _ => by kernel_rfl
  have e4 := Lib.hid (wcs_four hl)
  go_enter Tryz.func125, Tryz.ntmps125
  go_wp2
  go_loopw [4, 8] (fun iv i wr => ∃ j : Nat, i = .int .i64 (j : Int) ∧ j ≤ 4 ∧ wr = w.alloc (.cells (wcs h j) 5)) (fun _ i _ => 4 - (intOf i).toNat)
  case atStart => exact ⟨0, rfl, Nat.zero_le _, rfl⟩
  case round =>
    obtain ⟨j, rfl, hj, rfl⟩ := hrel
    by_cases hlt : j < 4
    · rcases (show j = 0 ∨ j = 1 ∨ j = 2 ∨ j = 3 by omega) with rfl | rfl | rfl | rfl
      · unfold wcs
        go_wp2_with fail
        go_roundw
        case rel => exact ⟨1, rfl, by omega, rfl⟩
        case measure => simp [intOf]
      · unfold wcs
        go_wp2_with fail
        go_roundw
        case rel => exact ⟨2, rfl, by omega, rfl⟩
        case measure => simp [intOf]
      · unfold wcs
        go_wp2_with fail
        go_roundw
        case rel => exact ⟨3, rfl, by omega, rfl⟩
        case measure => simp [intOf]
      · unfold wcs
        go_wp2_with fail
        go_roundw
        case rel => exact ⟨4, rfl, by omega, rfl⟩
        case measure => simp [intOf]
    · obtain rfl : j = 4 := by omega
      rw [e4.out]
      go_wp2_with fail
      go_ret
      exact ⟨rfl, rfl⟩

theorem bytes_u32 (h : Nat) (w : World) (hl : h < 4294967296) : Calls Tryz.prog 126 #[.int .u32 (h : Int)] w fun e w' => e = .returned (.slice (some ⟨w.heap.size, 0, none⟩) 4 4) ∧ w' = w.alloc (.cells ((four h).map bv).toArray 5) := by
  have hmk : ∀ w, (Instr.makeSlice 55 (.int .i64 4) (.int .i64 4)).run Tryz.prog w = .ok (.slice (some ⟨w.heap.size, 0, none⟩) 4 4) (w.alloc (.cells #[.int .u8 0, .int .u8 0, .int .u8 0, .int .u8 0] 5)) := fun _ => by kernel_rfl
  have e4 := Lib.hid (wcs_four hl)
  go_enter Tryz.func126, Tryz.ntmps126
  go_wp2
  go_loopw [4, 8] (fun iv i wr => ∃ j : Nat, i = .int .i64 (j : Int) ∧ j ≤ 4 ∧ wr = w.alloc (.cells (wcs h j) 5)) (fun _ i _ => 4 - (intOf i).toNat)
  case atStart => exact ⟨0, rfl, Nat.zero_le _, rfl⟩
  case round =>
    obtain ⟨j, rfl, hj, rfl⟩ := hrel
    by_cases hlt : j < 4
    · rcases (show j = 0 ∨ j = 1 ∨ j = 2 ∨ j = 3 by omega) with rfl | rfl | rfl | rfl
      · unfold wcs
        go_wp2_with fail
        go_roundw
        case rel => exact ⟨1, rfl, by omega, rfl⟩
        case measure => simp [intOf]
      · unfold wcs
        go_wp2_with fail
        go_roundw
        case rel => exact ⟨2, rfl, by omega, rfl⟩
        case measure => simp [intOf]
      · unfold wcs
        go_wp2_with fail
        go_roundw
        case rel => exact ⟨3, rfl, by omega, rfl⟩
        case measure => simp [intOf]
      · unfold wcs
        go_wp2_with fail
        go_roundw
        case rel => exact ⟨4, rfl, by omega, rfl⟩
        case measure => simp [intOf]
    · obtain rfl : j = 4 := by omega
      rw [e4.out]
      go_wp2_with fail
      go_ret
      exact ⟨rfl, rfl⟩

end Go.Proofs.YthgpjlmdllihmaaGreat
