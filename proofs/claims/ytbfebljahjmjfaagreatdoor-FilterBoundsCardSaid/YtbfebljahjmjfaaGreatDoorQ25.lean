import Derived.Test.YtbfebljahjmjfaaGreatDoorQ24
import Derived.Defers
/- A range over a function whose rounds may panic, where what a round begins with hangs on the world. -/
namespace Go.Proofs.YtbfebljahjmjfaaGreatDoor
open Go.RowKit Go.Shelf
set_option linter.unusedVariables false
set_option linter.unusedSimpArgs false

theorem range_steps_w {X : Type} {P : Program} {gid : FuncId} {fnG : Func} (hfG : P.funcs[gid]? = some fnG) {n : Nat} {g : Operand} {ps : Array Tmp} {assign body : Code} {Q : Exit → Act → World → Prop} {a : Act} {w : World} {gf : Nat} {lb : Array Value} {E : X → Array Value → World → Prop} {f : X → Bool} {res : Bool}
  (hg : a.eval g = .func (.func gf) #[] lb) (eg : ∀ args w, (callFunc gf args).run P w = .ok (.enter gf args) w) (hseq : Steps2 P gf lb E f res w)
  (hps : ∀ x args W, E x args W → args.size = ps.size)
  (hE : ∀ x args A l o, E x args A → (∃ o', A.heap[l]? = some o' ∧ o'.isCells = false) → E x args (A.putObj l o))
  (Ix : World → Prop) (Ip : List PanicEntry → World → Prop) (hIx : ∀ A B, Ix A → Below w.heap.size A B → Ix B) (hIp : ∀ ch A B, Ip ch A → Below w.heap.size A B → Ip ch B) (A₁ : Array Value → World → Act → Prop) (hA₁ : ∀ args A b l o, A₁ args A b → (∃ o', A.heap[l]? = some o' ∧ o'.isCells = false) → A₁ args (A.putObj l o) b)
  (hassign : ∀ (l : Nat) (x : X) (args : Array Value) (W : World) (K : Act → World → Prop), E x args W → (∀ b W', Keeps [] W W' → A₁ args W' b → K b W') →
   assign.wpIn (Fence.wide.inRound l) 3 P (Exit.then K (fun _ _ _ => False)) { tmps := (ps.zip args).foldl (fun t (p, v) => t.setIfInBounds p v) a.tmps, defers := [] } W)
  (hbody : ∀ (l : Nat) (x : X) (args : Array Value) (W : World) (b : Act), Below w.heap.size w W → w.heap.size + 2 ≤ W.heap.size → E x args W → A₁ args W b → body.wpIn (Fence.wide.inRound l) 3 P (stepPost w.heap.size f Ix Ip x W) b W)
  (hEK : ∀ x args A B, E x args A → Keeps [] A B → E x args B)
  (hdone : ∀ (W : World), res = true → Below w.heap.size w W → W.heap[w.heap.size]? = some (.deferred (some [])) → Q .normal { a with defers := { target := .collected w.heap.size, args := #[] } :: a.defers } W)
  (hstop : ∀ (W : World), res = false → Ix W → W.heap[w.heap.size]? = some (.deferred (some [])) → Code.ret.wpIn Fence.wide n P Q { a with defers := { target := .collected w.heap.size, args := #[] } :: a.defers } W)
  (hpan : ∀ (ch : List PanicEntry) (W : World), res = false → Ip ch W → W.heap[w.heap.size]? = some (.deferred (some [])) → Q (.panic ch) { a with defers := { target := .collected w.heap.size, args := #[] } :: a.defers } W) :
  wpOf gid Fence.wide n P (Code.rangeFunc g ps assign body) Q a w := by
 refine wpOf_rangeFunc ?_
 let rec_ : LoopState → Option Code → Loop := fun st pe => { state := st, pending := pe, fn := gid, tmps := a.tmps, params := ps, assign, body, defers := w.heap.size }
 obtain ⟨W1, hW1⟩ : ∃ W1, (w.alloc (.deferred (some []))).alloc (.loop (rec_ .ready none)) = W1 := ⟨_, rfl⟩
 have hz1 : W1.heap.size = w.heap.size + 2 := by rw [← hW1]; simp
 have hk1 : Keeps [] w W1 := by rw [← hW1]; exact ((Keeps.refl [] w).alloc _).alloc _
 have hL1 : W1.heap[w.heap.size + 1]? = some (.loop (rec_ .ready none)) := by
  rw [← hW1]
  have := World.alloc_heap_new (w.alloc (.deferred (some []))) (.loop (rec_ .ready none))
  rwa [World.size_alloc] at this
 have hK1 : W1.heap[w.heap.size]? = some (.deferred (some [])) := by
  rw [← hW1]
  exact (Below.heap_alloc _ _ _ (by simp)).trans (World.alloc_heap_new w _)
 refine ⟨w.heap.size + 1, [{ target := .collected w.heap.size, args := #[] }], W1, { target := .fn (.func gf) lb, args := #[.func (.yield (w.heap.size + 1)) #[] #[]] }, W1, gf, #[.func (.yield (w.heap.size + 1)) #[] #[]] ++ lb, W1, ?_, ?_, fun _ _ => trivial, ?_, fun h => (by simp [Fence.wide] at h), callsIn_wide.2 ?_⟩
 ·rw [← hW1]
  exact run_enterLoop_outer _ _ _ _ _
 ·simp only [resolve, hg]
  simp [go_sem]
 ·simp [invoke, go_sem, eg]
 have low : ∀ {A B : World}, Below W1.heap.size A B → Below w.heap.size A B := fun h => ⟨h.os, h.tape, h.output, h.size, fun i hi => h.block i (by omega)⟩
 refine (hseq (w.heap.size + 1)
  (fun W => Below w.heap.size w W ∧ W.heap[w.heap.size + 1]? = some (.loop (rec_ .ready none)) ∧ W.heap[w.heap.size]? = some (.deferred (some [])))
  (fun W => Ix W ∧ W.heap[w.heap.size + 1]? = some (.loop (rec_ .done (some .ret))) ∧ W.heap[w.heap.size]? = some (.deferred (some [])))
  (fun ch W => Ip ch W ∧ W.heap[w.heap.size]? = some (.deferred (some [])))
  W1 (Kept.of_keeps hk1)
  (fun A B h hb => ⟨h.1.trans (low hb), (hb.block _ (by omega)).trans h.2.1, (hb.block _ (by omega)).trans h.2.2⟩)
  (fun A B h hb => ⟨hIx A B h.1 (low hb), (hb.block _ (by omega)).trans h.2.1, (hb.block _ (by omega)).trans h.2.2⟩)
  (fun ch A B h hb => ⟨hIp ch A B h.1 (low hb), (hb.block _ (by omega)).trans h.2⟩)
  ?_ ⟨hk1.below (Nat.le_refl _) (by simp), hL1, hK1⟩).mono ?_
 ·rintro x args A ⟨hBA, hl, hd⟩ hKA hEA
  refine Asks.of (m := 3) ⟨gid, _, assign, body, run_yield (P := P) (args := args) hl (hps _ _ _ hEA), roundIn_pan hfG trivial (hassign _ x args A _ hEA fun b1 A1 hkA hab => ?_)⟩
  have hlt : w.heap.size + 1 < A.heap.size := (Array.getElem?_eq_some_iff.1 hl).1
  have hl1 : A1.heap[w.heap.size + 1]? = some (.loop (rec_ .ready none)) := (hkA.block _ hlt (by simp)).trans hl
  have hd1 : A1.heap[w.heap.size]? = some (.deferred (some [])) := (hkA.block _ (by omega) (by simp)).trans hd
  have hlt1 : w.heap.size + 1 < A1.heap.size := (Array.getElem?_eq_some_iff.1 hl1).1
  have hE1 := hEK _ _ _ _ hEA hkA
  refine ⟨_, run_beginRound hl1 rfl, ?_⟩
  obtain ⟨A2, hA2⟩ : ∃ A2, A1.putObj (w.heap.size + 1) (.loop { rec_ .ready none with state := .busy }) = A2 := ⟨_, rfl⟩
  have hb2 : Kept w.heap.size A1 A2 := by rw [← hA2]; exact Kept.put (by omega) hl1 rfl
  have hc2 : Kept 0 A1 A2 := hb2.mono (Nat.zero_le _)
  have hl2 : A2.heap[w.heap.size + 1]? = some (.loop { rec_ .ready none with state := .busy }) := by rw [← hA2]; exact World.putObj_heap_same hlt1
  have hd2 : A2.heap[w.heap.size]? = some (.deferred (some [])) := by rw [← hA2]; exact (World.putObj_heap_other (by omega)).trans hd1
  have hE2 : E x args A2 := by rw [← hA2]; exact hE x args A1 _ _ hE1 ⟨_, hl1, rfl⟩
  have hz2 : A2.heap.size = A1.heap.size := by rw [← hA2]; exact World.putObj_size
  rw [hA2]
  have hB2 : Below w.heap.size w A2 := (hBA.trans (hkA.below (by omega) (by simp))).trans (hb2.below (by omega))
  refine wpIn_mono (hbody _ x args A2 b1 hB2 (by omega) hE2 (by rw [← hA2]; exact hA₁ _ _ _ _ _ hab ⟨_, hl1, rfl⟩)) ?_
  have fin : ∀ (jump : Option Code) (B : World), Over w.heap.size A2 B → (Instr.endRound (w.heap.size + 1) jump).run P B = .ok (.bool jump.isNone) (B.putObj (w.heap.size + 1) (.loop (rec_ (if jump.isNone then .ready else .done) jump))) ∧
    (B.putObj (w.heap.size + 1) (.loop (rec_ (if jump.isNone then .ready else .done) jump))).heap[w.heap.size + 1]? = some (.loop (rec_ (if jump.isNone then .ready else .done) jump)) ∧
    (B.putObj (w.heap.size + 1) (.loop (rec_ (if jump.isNone then .ready else .done) jump))).heap[w.heap.size]? = some (.deferred (some [])) ∧ Kept w.heap.size B (B.putObj (w.heap.size + 1) (.loop (rec_ (if jump.isNone then .ready else .done) jump))) := fun jump B hB => by
   have hl3 := (hB.block (w.heap.size + 1) (by omega) (by omega)).trans hl2
   exact ⟨run_endRound (P := P) jump hl3, World.putObj_heap_same (Array.getElem?_eq_some_iff.1 hl3).1, (World.putObj_heap_other (by omega)).trans ((hB.block _ (Nat.le_refl _) (by omega)).trans hd2), Kept.put (by omega) hl3 rfl⟩
  rintro e a3 B hp
  cases e with
  | normal =>
   obtain ⟨hf, hkB⟩ := hp
   obtain ⟨hr, hl4, hd4, hb4⟩ := fin none B (Over.of_keeps hkB)
   have hzB := hkB.size
   exact ⟨_, _, hr, .inl ⟨rfl, hf, (((Kept.of_keeps hkA).trans hc2).trans (Kept.of_keeps hkB)).trans (hb4.mono (Nat.zero_le _)), ⟨(hB2.trans (hkB.below (by omega) (by simp))).trans (hb4.below (by omega)), hl4, hd4⟩⟩⟩
  | ret =>
   obtain ⟨hf, hoB, hi3⟩ := hp
   obtain ⟨hr, hl4, hd4, hb4⟩ := fin (some .ret) B hoB
   have hzB := hoB.size
   exact ⟨_, _, hr, .inr (.inl ⟨rfl, hf, hIx _ _ hi3 (hb4.below (by omega)), hl4, hd4⟩)⟩
  | panic ch =>
   obtain ⟨hd0, hf, hoB, hi3⟩ := hp
   exact ⟨hd0, .inr (.inr ⟨ch, rfl, hf, hi3, (hoB.block _ (Nat.le_refl _) (by omega)).trans hd2⟩)⟩
  | exit id => exact hp.elim
  | goto t => exact hp.elim
  | outgrown => exact hp.elim
 ·rintro e B (⟨⟨v, rfl⟩, (⟨hr, hi, hl, hd⟩ | ⟨hr, hi, hl, hd⟩)⟩ | ⟨ch, rfl, hr, hi, hd⟩)
  ·have hlt : w.heap.size + 1 < B.heap.size := (Array.getElem?_eq_some_iff.1 hl).1
   exact ⟨none, _, run_endLoop (P := P) hl (by simp [rec_]), hdone _ hr (hi.trans ((Kept.put (n := w.heap.size) (by omega) hl rfl).below (by omega))) ((World.putObj_heap_other (by omega)).trans hd)⟩
  ·have hlt : w.heap.size + 1 < B.heap.size := (Array.getElem?_eq_some_iff.1 hl).1
   exact ⟨some .ret, _, run_endLoop (P := P) hl (by simp [rec_]), hstop _ hr (hIx _ _ hi ((Kept.put (n := w.heap.size) (by omega) hl rfl).below (by omega))) ((World.putObj_heap_other (by omega)).trans hd)⟩
  ·exact hpan ch B hr hi hd

end Go.Proofs.YtbfebljahjmjfaaGreatDoor
/- ber: what may not be, anywhere in a value. -/
namespace Go.Proofs.YtbfebljahjmjfaaGreatDoor
open Go.RowKit Go.Shelf
set_option linter.unusedVariables false
set_option linter.unusedSimpArgs false
set_option maxRecDepth 100000
attribute [local go_sem] Oper.semAt_some

theorem inmade_is (c n : Nat) (k : Bool) (A : Option Addr) (la ca : Nat) (B : Option Addr) (lb cb : Nat) (c2 n2 : Nat) (k2 : Bool) (A2 : Option Addr) (la2 ca2 : Nat) (B2 : Option Addr) (lb2 cb2 : Nat) (w : World) : Calls Tryz.prog 114 #[.agg #[.int .u8 (c : Int), .int .u8 (n : Int), .bool k, .slice A la ca, .slice B lb cb], .agg #[.int .u8 (c2 : Int), .int .u8 (n2 : Int), .bool k2, .slice A2 la2 ca2, .slice B2 lb2 cb2]] w fun e w' =>
  e = .returned (.func (.func 183) #[] #[.pointer (some ⟨w.heap.size, 0, none⟩), .pointer (some ⟨w.heap.size + 1, 0, none⟩)]) ∧ (w.alloc (.cells #[.int .u8 (c : Int), .int .u8 (n : Int), .bool k, .slice A la ca, .slice B lb cb] 40)).alloc (.cells #[.int .u8 (c2 : Int), .int .u8 (n2 : Int), .bool k2, .slice A2 la2 ca2, .slice B2 lb2 cb2] 40) = w' := by
 have hmf : ∀ (fn : Fn) (first cap : Array Value) (w : World), (Instr.makeFunc fn first cap).run Tryz.prog w = .ok (.func fn first cap) w := fun _ _ _ _ => rfl
 go_enter Tryz.func114, Tryz.ntmps114
 go_wp2_with fail
 go_ret
 exact ⟨rfl, rfl⟩

end Go.Proofs.YtbfebljahjmjfaaGreatDoor
/- ber: Encode. -/
namespace Go.Proofs.YtbfebljahjmjfaaGreatDoor
open Go.RowKit Go.Shelf
set_option linter.unusedVariables false
set_option linter.unusedSimpArgs false
set_option maxRecDepth 100000

/-- A cell that is set to what it holds. -/
theorem set_sameb5 {w : World} {a : Addr} {v : Value} (h : w.cell? a = some v) (p : Addr) (u : Value) (hp : w.cell? p = some u) : (w.setCell a v).cell? p = some u := by
 by_cases e : a = p
 ·subst e
  rw [h] at hp
  injection hp with hp
  subst hp
  exact World.cell?_setCell_same _ _ _ h
 ·rw [World.cell?_setCell_other _ _ _ _ e]
  exact hp
end Go.Proofs.YtbfebljahjmjfaaGreatDoor
/- ber: copies, as words: rows that are still to be gone through, and what they will make. -/
namespace Go.Proofs.YtbfebljahjmjfaaGreatDoor
open Go.RowKit Go.Shelf
set_option linter.unusedVariables false
set_option linter.unusedSimpArgs false
set_option maxRecDepth 100000

theorem items_of {X : World} {B : Option Addr} : ∀ {l : List BV} {i : Nat}, (∀ j t, l[j]? = some t → ∃ b o h, B = some ⟨b, o, none⟩ ∧ (∀ q u, (BH.list h)[q]? = some u → X.cell? ⟨b, o + (i + j) * 5 + q, none⟩ = some u) ∧ BerAt X t h) → ItemsAt X B i l
 | [], _, _ => trivial
 | x :: r, i, h => by
  refine ⟨?_, items_of (i := i + 1) fun j t ht => ?_⟩
  ·obtain ⟨b, o, hh, h1, h2, h3⟩ := h 0 x rfl
   exact ⟨b, o, hh, h1, h2, h3⟩
  ·obtain ⟨b, o, hh, h1, h2, h3⟩ := h (j + 1) t (by simpa using ht)
   exact ⟨b, o, hh, h1, fun q u hu => by have := h2 q u hu; rwa [show i + 1 + j = i + (j + 1) by omega], h3⟩

theorem items_own {X : World} {base n d : Nat} {g : Option Addr} {hs : List BH} {l : List BV} (ho : X.ownsRow base 40 5 (.slice g n d) n (headsL hs)) (hn : hs.length = n) (hl : l.length = n) (hb : ∀ (i : Nat) (t : BV) (h : BH), l[i]? = some t → hs[i]? = some h → BerAt X t h) : ItemsAt X g 0 l := by
 refine items_of fun j t ht => ?_
 have hj : j < n := by have := (List.getElem?_eq_some_iff.1 ht).1; omega
 have hh : hs[j]? = some (hs[j]'(by omega)) := List.getElem?_eq_getElem _
 rcases ho.2 with ⟨_, h0⟩ | ⟨k, cap, cur, hv, _⟩
 ·omega
 ·injection hv with e1 e2 e3
  subst e1
  refine ⟨k, 0, _, rfl, fun q u hu => ?_, hb j t _ ht hh⟩
  have h9 := ho.cells (g := k) rfl (j * 5 + q) u (headsL_get hs j q _ u hh hu)
  rw [add_at] at h9
  rw [Nat.zero_add, Nat.zero_add]
  rwa [Nat.zero_add] at h9

/-- A row of cells one of which is set. -/
theorem own_set {X : World} {base k n d gb off : Nat} {e : TypeId} {xs : List Value} (ho : X.ownsRow base e k (.slice (some ⟨gb, 0, none⟩) n d) n xs) (u : Value) : (X.setCell ⟨gb, off, none⟩ u).ownsRow base e k (.slice (some ⟨gb, 0, none⟩) n d) n (xs.set off u) := by
 obtain ⟨h1, h2⟩ := ho
 refine ⟨by rw [List.length_set]; exact h1, ?_⟩
 rcases h2 with ⟨h2, _⟩ | ⟨g, cap, cur, hv, hb, hh, hnc, hcm, hcs, ht⟩
 ·cases h2
 ·injection hv with e1 e2 e3
  injection e1 with e1
  injection e1 with e1 _ _
  subst e1 e3
  refine .inr ⟨gb, d, _, rfl, hb, heap_setCell_same X gb off _ e u hh, hnc, hcm, by simp [hcs], ?_⟩
  rw [← ht]
  simp [List.take_set]

/-- The block of an address. -/
def ob (g : Option Addr) : List Nat := (g.map (·.block)).toList
theorem ob_own (g : Option Addr) (n c : Nat) : (Value.ownBlock (.slice g n c)).toList = ob g := by cases g <;> rfl

/-- A row of a copy that is still to be gone through. -/
structure CR where
 g : Option Addr
 d : Nat
 hs : List BH
 l : List BV
def CR.v (s : CR) : Value := .slice s.g s.hs.length s.d
structure CR.ok (w0 : World) (s : CR) : Prop where
 len : s.hs.length = s.l.length
 at_ : ∀ (j : Nat) (t : BV) (h : BH), s.l[j]? = some t → s.hs[j]? = some h → BerAt w0 t h
 mx : maxL s.l ≤ 1000000000
def CR.lies (w0 w : World) (s : CR) : Prop := w.ownsRow w0.heap.size 40 5 s.v s.hs.length (headsL s.hs)
def bsC (S : List CR) : List Nat := S.flatMap fun s => ob s.g
theorem bsC_snoc (S : List CR) (s : CR) : bsC (S ++ [s]) = bsC S ++ ob s.g := by simp [bsC]
def nodesC (S : List CR) : Nat := (S.map fun s => 1 + nodesL s.l).sum
theorem nodesC_snoc (S : List CR) (s : CR) : nodesC (S ++ [s]) = nodesC S + (1 + nodesL s.l) := by simp [nodesC]
theorem nodesC_len : ∀ S : List CR, S.length ≤ nodesC S
 | [] => Nat.zero_le _
 | s :: r => by
  have := nodesC_len r
  unfold nodesC at *
  simp at *
  omega
theorem nodesL_len : ∀ l : List BV, l.length ≤ nodesL l
 | [] => Nat.zero_le _
 | t :: r => by
  have := nodesL_len r
  have h1 := nodesB_mk t
  simp only [nodesL, List.length_cons]
  omega
theorem CR.lies.lt {w0 w : World} {s : CR} (h : s.lies w0 w) : ∀ b ∈ ob s.g, w0.heap.size ≤ b ∧ b < w.heap.size := by
 intro b hb
 rw [← ob_own s.g s.hs.length s.d] at hb
 have hv : (Value.slice s.g s.hs.length s.d).ownBlock = some b := by simpa using hb
 exact World.ownsRow.lt (show w.ownsRow w0.heap.size 40 5 (.slice s.g s.hs.length s.d) s.hs.length (headsL s.hs) from h) b hv
theorem bsC_lt {w0 w : World} {S : List CR} (h : ∀ s ∈ S, s.lies w0 w) : ∀ b ∈ bsC S, w0.heap.size ≤ b ∧ b < w.heap.size := by
 intro b hb
 obtain ⟨s, h1, h2⟩ := List.mem_flatMap.1 hb
 exact (h s h1).lt b h2

/-- What the rounds over the stack find. -/
structure COut (w0 : World) (C : Option Addr) (l0 : List BV) (v : Value) (wr : World) (m : Nat) (S : List CR) (nS : Nat) : Prop where
 len : S.length = nS
 nodes : nodesC S = m
 own : wr.ownsRow w0.heap.size 38 1 v nS (S.map CR.v)
 ok : ∀ s ∈ S, s.ok w0 ∧ s.lies w0 wr
 nd : (bsC S).Nodup
 ap : ∀ b ∈ v.ownBlock.toList, b ∉ bsC S
 keeps : Keeps [] w0 wr
 wand : ∀ (E : List Nat) X, (∀ x ∈ E, x < w0.heap.size) → Keeps (E ++ (v.ownBlock.toList ++ bsC S)) wr X → (∀ s ∈ S, ItemsAt X s.g 0 s.l) → ItemsAt X C 0 l0

/-- What the rounds over a row find. -/
structure CIn (w0 : World) (C : Option Addr) (l0 : List BV) (m : Nat) (g : Option Addr) (n d : Nat) (l : List BV) (j : Nat) (v : Value) (wr : World) (S : List CR) (nS : Nat) (hs : List BH) : Prop where
 len : S.length = nS
 nodes : nodesC S + nodesL (l.drop j) + 1 = m
 own : wr.ownsRow w0.heap.size 38 1 v nS (S.map CR.v)
 ok : ∀ s ∈ S, s.ok w0 ∧ s.lies w0 wr
 nd : (bsC S ++ ob g).Nodup
 ap : ∀ b ∈ v.ownBlock.toList, b ∉ bsC S ++ ob g
 keeps : Keeps [] w0 wr
 row : wr.ownsRow w0.heap.size 40 5 (.slice g n d) n (headsL hs)
 hl : hs.length = n
 ln : l.length = n
 mx : maxL l ≤ 1000000000
 rest : ∀ (i : Nat) (t : BV) (h : BH), j ≤ i → l[i]? = some t → hs[i]? = some h → BerAt w0 t h
 done : ∀ (E : List Nat) X, (∀ x ∈ E, x < w0.heap.size) → Keeps (E ++ (v.ownBlock.toList ++ (bsC S ++ ob g))) wr X → (∀ s ∈ S, ItemsAt X s.g 0 s.l) → ∀ (i : Nat) (t : BV) (h : BH), i < j → l[i]? = some t → hs[i]? = some h → BerAt X t h
 wand : ∀ (E : List Nat) X, (∀ x ∈ E, x < w0.heap.size) → Keeps (E ++ (v.ownBlock.toList ++ (bsC S ++ ob g))) wr X → (∀ s ∈ S, ItemsAt X s.g 0 s.l) → ItemsAt X g 0 l → ItemsAt X C 0 l0

theorem COut.done {w0 wr : World} {C : Option Addr} {l0 : List BV} {v : Value} {m nS : Nat} (h : COut w0 C l0 v wr m [] nS) (E : List Nat) (X : World) (hE : ∀ x ∈ E, x < w0.heap.size) (hk : Keeps E wr X) : ItemsAt X C 0 l0 :=
 h.wand E X hE (hk.mono fun x hx => .inl (List.mem_append_left _ hx)) (fun s hs => by cases hs)

theorem CIn.lt {w0 wr : World} {C g : Option Addr} {l0 l : List BV} {v : Value} {m n d j nS : Nat} {S : List CR} {hs : List BH} (h : CIn w0 C l0 m g n d l j v wr S nS hs) : ∀ b ∈ bsC S ++ ob g, w0.heap.size ≤ b ∧ b < wr.heap.size := by
 intro b hb
 rcases List.mem_append.1 hb with hb | hb
 ·exact bsC_lt (fun s hs => (h.ok s hs).2) b hb
 ·rw [← ob_own g n d] at hb
  exact h.row.lt b (by simpa using hb)

/-- A row is gone through. -/
theorem CIn.out {w0 wr : World} {C g : Option Addr} {l0 l : List BV} {v : Value} {m n d j nS : Nat} {S : List CR} {hs : List BH} (h : CIn w0 C l0 m g n d l j v wr S nS hs) (hj : n ≤ j) : COut w0 C l0 v wr (m - 1) S nS := by
 have hnd := List.nodup_append.1 h.nd
 refine ⟨h.len, ?_, h.own, h.ok, hnd.1, fun b hb hm => h.ap b hb (List.mem_append_left _ hm), h.keeps, fun E X hE hk hS => ?_⟩
 ·have h1 := h.nodes
  rw [List.drop_of_length_le (by have := h.ln; omega)] at h1
  simp [nodesL] at h1
  omega
 ·have hk2 : Keeps (E ++ (v.ownBlock.toList ++ (bsC S ++ ob g))) wr X := hk.mono (fun x hx => by
   rcases List.mem_append.1 hx with hx | hx
   ·exact .inl (List.mem_append_left _ hx)
   ·rcases List.mem_append.1 hx with hx | hx
    ·exact .inl (List.mem_append_right _ (List.mem_append_left _ hx))
    ·exact .inl (List.mem_append_right _ (List.mem_append_right _ (List.mem_append_left _ hx))))
  refine h.wand E X hE hk2 hS (items_own (own_keep h.row hk (fun b hb hm => ?_)) h.hl h.ln fun i t hh ht hi => h.done E X hE hk2 hS i t hh (by have := (List.getElem?_eq_some_iff.1 ht).1; have := h.ln; omega) ht hi)
  have hbg : b ∈ ob g := by rw [← ob_own g n d, hb]; simp
  have hbz := (h.row.lt b hb).1
  rcases List.mem_append.1 hm with hm | hm
  ·have := hE b hm; omega
  ·rcases List.mem_append.1 hm with hm | hm
   ·exact h.ap b hm (List.mem_append_right _ hbg)
   ·exact hnd.2.2 b hm b hbg rfl

/-- A row is taken off the stack. -/
theorem COut.pop {w0 wr : World} {C g' : Option Addr} {l0 : List BV} {m nS d' : Nat} {S : List CR} {s : CR} (h : COut w0 C l0 (.slice g' (nS + 1) d') wr m (S ++ [s]) (nS + 1)) :
  wr.ownsRow w0.heap.size 38 1 (.slice g' nS d') nS (S.map CR.v) → CIn w0 C l0 m s.g s.hs.length s.d s.l 0 (.slice g' nS d') wr S nS s.hs := by
 intro ho
 have hok := (h.ok s (by simp)).1
 have hli := (h.ok s (by simp)).2
 have hnd := h.nd
 have hap := h.ap
 have hw := h.wand
 rw [bsC_snoc] at hnd hap hw
 rw [ob_own] at hap hw
 refine ⟨by have := h.len; simp at this; omega, ?_, ho, fun x hx => h.ok x (by simp [hx]), hnd, by rw [ob_own]; exact hap, h.keeps, hli, rfl, hok.len.symm, hok.mx, fun i t hh _ => hok.at_ i t hh, fun E X _ _ _ i t hh hi => absurd hi (Nat.not_lt_zero _), fun E X hE hk hS hi => hw E X hE (by rw [ob_own] at hk; exact hk) (fun x hx => ?_)⟩
 ·have h1 := h.nodes
  rw [nodesC_snoc] at h1
  rw [List.drop_zero]
  omega
 ·rcases List.mem_append.1 hx with hx | hx
  ·exact hS x hx
  ·rw [List.mem_singleton.1 hx]; exact hi

end Go.Proofs.YtbfebljahjmjfaaGreatDoor
/- ber: copies: what one value of a row does to all. -/
namespace Go.Proofs.YtbfebljahjmjfaaGreatDoor
open Go.RowKit Go.Shelf
set_option linter.unusedVariables false
set_option linter.unusedSimpArgs false
set_option maxRecDepth 100000

theorem CIn.step {w0 wr : World} {C : Option Addr} {gb : Nat} {l0 l : List BV} {v : Value} {m n d j nS : Nat} {S : List CR} {hs : List BH} (H : CIn w0 C l0 m (some ⟨gb, 0, none⟩) n d l j v wr S nS hs) (hj : j < n) {t : BV} {h : BH} (ht : l[j]? = some t) (hh : hs[j]? = some h)
  {w2 w3 w4 w5 : World} {D gc : Option Addr} {dd dc : Nat} {v5 : Value} {hsc : List BH}
  (k2 : Keeps [] wr w2) (hb : BytesAt w2 (.slice D h.la dd) t.b) (hDz : ∀ x ∈ ob D, wr.heap.size ≤ x ∧ x < w2.heap.size) (hc : w2.ownsRow wr.heap.size 40 5 (.slice gc h.lb dc) h.lb (headsL hsc)) (hap : ∀ x ∈ ob D, x ∉ ob gc)
  (hcl : hsc.length = t.l.length) (hcb : ∀ (i : Nat) (t' : BV) (h' : BH), t.l[i]? = some t' → hsc[i]? = some h' → BerAt w0 t' h') (hcm : maxL t.l ≤ 1000000000)
  (k3 : Keeps [gb] w2 w3) (hrow : w3.ownsRow w0.heap.size 40 5 (.slice (some ⟨gb, 0, none⟩) n d) n (headsL (hs.set j ⟨h.c, h.n, h.k, D, h.la, dd, gc, h.lb, dc⟩)))
  (k4 : Keeps [] w3 w4)
  (ho5 : w5.ownsRow w0.heap.size 38 1 v5 (nS + 1) (S.map CR.v ++ [.slice gc h.lb dc])) (hg5 : w4.grownBy w5 v.ownBlock) (hs5 : v5.ownBlock = v.ownBlock ∨ v5.ownBlock = some w4.heap.size) :
  CIn w0 C l0 m (some ⟨gb, 0, none⟩) n d l (j + 1) v5 w5 (S ++ [⟨gc, dc, hsc, t.l⟩]) (nS + 1) (hs.set j ⟨h.c, h.n, h.k, D, h.la, dd, gc, h.lb, dc⟩) := by
 have hz2 := k2.size
 have hz3 := k3.size
 have hz4 := k4.size
 have hz0 := H.keeps.size
 have hber := H.rest j t h (Nat.le_refl _) ht hh
 obtain ⟨tc, tn, tk, tb, tl⟩ := t
 obtain ⟨e1, e2, e3, e4, e5, e6, e7, e8, e9, e10, e11⟩ := hber
 have hlt := H.lt
 have hgb : gb < wr.heap.size := (hlt gb (List.mem_append_right _ (by simp [ob]))).2
 have hvl : ∀ x ∈ v.ownBlock.toList, x < wr.heap.size := fun x hx => (H.own.lt x (by simpa using hx)).2
 have hgc : ∀ x ∈ ob gc, wr.heap.size ≤ x ∧ x < w2.heap.size := fun x hx => hc.lt x (by rw [← ob_own gc h.lb dc] at hx; simpa using hx)
 have k5 : Keeps v.ownBlock.toList w4 w5 := Keeps.of_grown hg5 (fun x hx => .inl (by rw [hx]; simp))
 have hz5 := k5.size
 have hnd := List.nodup_append.1 H.nd
 have kS : Keeps (v.ownBlock.toList ++ [gb]) wr w5 := (((k2.mono (by simp)).trans k3 (fun x hx => .inl (List.mem_append_right _ hx))).trans k4 (by simp)).trans k5 (fun x hx => .inl (List.mem_append_left _ hx))
 have kL : Keeps (v.ownBlock.toList ++ (bsC S ++ [gb])) wr w5 := kS.mono (fun x hx => by
  rcases List.mem_append.1 hx with hx | hx
  ·exact .inl (List.mem_append_left _ hx)
  ·exact .inl (List.mem_append_right _ (List.mem_append_right _ hx)))
 have hvg : ∀ x ∈ v.ownBlock.toList, x ≠ gb := fun x hx e => H.ap x hx (List.mem_append_right _ (by simp [ob, e]))
 have k25 : Keeps (gb :: v.ownBlock.toList) w2 w5 := ((k3.mono (by simp)).trans k4 (by simp)).trans k5 (fun x hx => .inl (List.mem_cons_of_mem _ hx))
 have hli : ∀ s ∈ S, s.lies w0 w5 := fun s hs => own_keep (H.ok s hs).2 kS (fun b hb hm => by
  have hbs : b ∈ bsC S := List.mem_flatMap.2 ⟨s, hs, by
   have h9 : b ∈ (Value.ownBlock (.slice s.g s.hs.length s.d)).toList := by
    have h8 : (Value.slice s.g s.hs.length s.d).ownBlock = some b := hb
    rw [h8]; simp
   rwa [ob_own] at h9⟩
  rcases List.mem_append.1 hm with hm | hm
  ·exact H.ap b hm (List.mem_append_left _ hbs)
  ·rw [List.mem_singleton] at hm
   exact hnd.2.2 b hbs gb (by simp [ob]) hm)
 have hlic : w5.ownsRow w0.heap.size 40 5 (.slice gc hsc.length dc) hsc.length (headsL hsc) := by
  rw [show hsc.length = h.lb by rw [hcl]; exact e8]
  refine own_keep (hc.mono (by omega)) k25 (fun b hb hm => ?_)
  have h9 := hgc b (by rw [← ob_own gc h.lb dc, hb]; simp)
  rcases List.mem_cons.1 hm with hm | hm
  ·omega
  ·have := hvl b hm; omega
 have hL : ∀ x ∈ v5.ownBlock.toList ++ (bsC (S ++ [⟨gc, dc, hsc, tl⟩]) ++ ob (some ⟨gb, 0, none⟩)), x ∈ v.ownBlock.toList ++ (bsC S ++ [gb]) ∨ wr.heap.size ≤ x := by
  intro x hx
  rcases List.mem_append.1 hx with hx | hx
  ·rcases hs5 with h9 | h9
   ·rw [h9] at hx; exact .inl (List.mem_append_left _ hx)
   ·rw [h9] at hx
    simp at hx
    omega
  ·rw [bsC_snoc] at hx
   rcases List.mem_append.1 hx with hx | hx
   ·rcases List.mem_append.1 hx with hx | hx
    ·exact .inl (List.mem_append_right _ (List.mem_append_left _ hx))
    ·exact .inr (hgc x hx).1
   ·exact .inl (List.mem_append_right _ (List.mem_append_right _ hx))
 have hset : ∀ (i : Nat), i ≠ j → (hs.set j ⟨h.c, h.n, h.k, D, h.la, dd, gc, h.lb, dc⟩)[i]? = hs[i]? := fun i hi => List.getElem?_set_ne (Ne.symm hi)
 have hsj : (hs.set j ⟨h.c, h.n, h.k, D, h.la, dd, gc, h.lb, dc⟩)[j]? = some ⟨h.c, h.n, h.k, D, h.la, dd, gc, h.lb, dc⟩ := by
  exact List.getElem?_set_self (by rw [H.hl]; exact hj)
 have kX : ∀ (E : List Nat) X, Keeps (E ++ (v5.ownBlock.toList ++ (bsC (S ++ [⟨gc, dc, hsc, tl⟩]) ++ ob (some ⟨gb, 0, none⟩)))) w5 X → Keeps (E ++ (v.ownBlock.toList ++ (bsC S ++ [gb]))) wr X := fun E X hk => by
  have kE : Keeps (E ++ (v.ownBlock.toList ++ (bsC S ++ [gb]))) wr w5 := kL.mono fun x hx => .inl (List.mem_append_right _ hx)
  refine kE.trans hk fun x hx => ?_
  rcases List.mem_append.1 hx with hx | hx
  ·exact .inl (List.mem_append_left _ hx)
  ·exact (hL x hx).imp (fun h => List.mem_append_right _ h) id
 have hSX : ∀ X, (∀ s ∈ S ++ [(⟨gc, dc, hsc, tl⟩ : CR)], ItemsAt X s.g 0 s.l) → ∀ s ∈ S, ItemsAt X s.g 0 s.l := fun X hS s hs => hS s (List.mem_append_left _ hs)
 refine ⟨by simp [H.len], ?_, by rw [List.map_append]; simp only [List.map_cons, List.map_nil, CR.v]; rw [show hsc.length = h.lb by rw [hcl]; exact e8]; exact ho5, fun s hs => ?_, ?_, fun b hb => ?_, H.keeps.trans kS (fun x hx => ?_), ?_, by rw [List.length_set]; exact H.hl, H.ln, H.mx, fun i t' h' hi hti hhi => ?_, fun E X hE hk hS i t' h' hi hti hhi => ?_, fun E X hE hk hS hI => ?_⟩
 ·have h9 := H.nodes
  rw [nodesL_at ht, nodesB_mk] at h9
  rw [nodesC_snoc]
  have h8 : (BV.mk tc tn tk tb tl).l = tl := rfl
  rw [h8] at h9
  show nodesC S + (1 + nodesL tl) + nodesL (l.drop (j + 1)) + 1 = m
  omega
 ·rcases List.mem_append.1 hs with hs | hs
  ·exact ⟨(H.ok s hs).1, hli s hs⟩
  ·rw [List.mem_singleton.1 hs]
   exact ⟨⟨hcl, hcb, hcm⟩, hlic⟩
 ·rw [bsC_snoc, List.append_assoc]
  refine List.nodup_append.2 ⟨hnd.1, List.nodup_append.2 ⟨by cases gc <;> simp [ob], by simp [ob], fun x hx y hy e => ?_⟩, fun x hx y hy e => ?_⟩
  ·simp [ob] at hy
   have := (hgc x hx).1
   omega
  ·rcases List.mem_append.1 hy with hy | hy
   ·have := (hgc y hy).1
    have := (hlt x (List.mem_append_left _ hx)).2
    omega
   ·exact hnd.2.2 x hx y hy e
 ·rw [bsC_snoc]
  intro hm
  have hb5 : b ∈ v.ownBlock.toList ∨ b = w4.heap.size := by
   rcases hs5 with h9 | h9
   ·rw [h9] at hb; exact .inl hb
   ·rw [h9] at hb; simp at hb; exact .inr (by omega)
  rcases List.mem_append.1 hm with hm | hm
  ·rcases List.mem_append.1 hm with hm | hm
   ·rcases hb5 with hb | hb
    ·exact H.ap b hb (List.mem_append_left _ hm)
    ·have := (hlt b (List.mem_append_left _ hm)).2; omega
   ·have h9 := hgc b hm
    rcases hb5 with hb | hb
    ·have := hvl b hb; omega
    ·omega
  ·rcases hb5 with hb | hb
   ·exact H.ap b hb (List.mem_append_right _ hm)
   ·have := (hlt b (List.mem_append_right _ hm)).2; omega
 ·rcases List.mem_append.1 hx with hx | hx
  ·exact .inr (H.own.lt x (by simpa using hx)).1
  ·rw [List.mem_singleton] at hx
   exact .inr (by rw [hx]; exact (hlt gb (List.mem_append_right _ (by simp [ob]))).1)
 ·exact own_keep (own_keep hrow k4 (by simp)) k5 (fun b hb hm => hvg b hm (by simp [Value.ownBlock] at hb; exact hb.symm))
 ·rw [hset i (by omega)] at hhi
  exact H.rest i t' h' (by omega) hti hhi
 ·by_cases hij : i = j
  ·subst hij
   rw [hsj] at hhi
   injection hhi with hhi
   rw [ht] at hti
   injection hti with hti
   subst hhi hti
   have hcap := cap_of_own hc
   refine ⟨e1, e2, e3, e4, e5, e6, ?_, e8, hcap.1, hcap.2, hS ⟨gc, dc, hsc, tl⟩ (List.mem_append_right _ (List.mem_singleton.2 rfl))⟩
   have k25' : Keeps (gb :: (v.ownBlock.toList ++ (E ++ (v5.ownBlock.toList ++ (bsC (S ++ [⟨gc, dc, hsc, tl⟩]) ++ ob (some ⟨gb, 0, none⟩)))))) w2 w5 := k25.mono (fun x hx => .inl (by
    rcases List.mem_cons.1 hx with hx | hx
    ·rw [hx]; exact List.mem_cons_self
    ·exact List.mem_cons_of_mem _ (List.mem_append_left _ hx)))
   have k2X : Keeps (gb :: (v.ownBlock.toList ++ (E ++ (v5.ownBlock.toList ++ (bsC (S ++ [⟨gc, dc, hsc, tl⟩]) ++ ob (some ⟨gb, 0, none⟩)))))) w2 X := k25'.trans hk (fun x hx => .inl (List.mem_cons_of_mem _ (List.mem_append_right _ hx)))
   refine hb.keep k2X (fun b hb hm => ?_)
   have hbD : b ∈ ob D := by rw [← ob_own D h.la dd, hb]; simp
   have hD9 := hDz b hbD
   rcases List.mem_cons.1 hm with hm | hm
   ·omega
   ·rcases List.mem_append.1 hm with hm | hm
    ·have := hvl b hm; omega
    ·rcases List.mem_append.1 hm with hm | hm
     ·have := hE b hm; omega
     ·rcases List.mem_append.1 hm with hm | hm
      ·rcases hs5 with h9 | h9
       ·rw [h9] at hm; have := hvl b hm; omega
       ·rw [h9] at hm; simp at hm; omega
      ·rw [bsC_snoc] at hm
       rcases List.mem_append.1 hm with hm | hm
       ·rcases List.mem_append.1 hm with hm | hm
        ·have := (hlt b (List.mem_append_left _ hm)).2; omega
        ·exact hap b hbD hm
       ·simp [ob] at hm; omega
  ·rw [hset i hij] at hhi
   exact H.done E X hE (kX E X hk) (hSX X hS) i t' h' (by omega) hti hhi
 ·exact H.wand E X hE (kX E X hk) (hSX X hS) hI

end Go.Proofs.YtbfebljahjmjfaaGreatDoor
