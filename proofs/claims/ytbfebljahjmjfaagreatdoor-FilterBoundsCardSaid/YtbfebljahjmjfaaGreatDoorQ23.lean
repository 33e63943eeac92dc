import Derived.Test.YtbfebljahjmjfaaGreatDoorQ04
import Derived.Test.YtbfebljahjmjfaaGreatDoorQ22
/- A range over a function whose rounds may panic, and what one that goes on in step promises. -/
namespace Go.Proofs.YtbfebljahjmjfaaGreatDoor
open Go.RowKit Go.Shelf
set_option linter.unusedVariables false
set_option linter.unusedSimpArgs false

theorem Kept.of_keeps {n : Nat} {w w' : World} (h : Keeps [] w w') : Kept n w w' := ⟨h.os, h.tape, h.output, h.size, fun k o ho _ => (h.block k (lt_of_heap ho) (by simp)).trans ho⟩
theorem Over.of_keeps {n : Nat} {w w' : World} (h : Keeps [] w w') : Over n w w' := ⟨h.os, h.tape, h.output, h.size, fun k _ hk => h.block k hk (by simp)⟩
theorem own_kept {m : Nat} {a b : World} {base k n : Nat} {e : TypeId} {v : Value} {xs : List Value} (h : a.ownsRow base e k v n xs) (hk : Kept m a b) : b.ownsRow base e k v n xs := by
 obtain ⟨h1, h2⟩ := h
 refine ⟨h1, ?_⟩
 rcases h2 with h2 | ⟨g, cap, cur, rfl, hg, hh, r⟩
 ·exact .inl h2
 ·exact .inr ⟨g, cap, cur, rfl, hg, hk.block _ _ hh (.inr rfl), r⟩

/-- Code, walked in frames of one function. -/
def wpOf (g : FuncId) (F : Fence) (n : Nat) (P : Program) (c : Code) (Q : Exit → Act → World → Prop) (a : Act) (w : World) : Prop :=
 ∀ (b : Frame) (k : List Item) (cs : List Frame), b.fn = g → b.roundOf = F.round → F.fn b.fn → F.room (cs.length + 1 + n) →
  ∃ e a' w', Q e a' w' ∧ ArrivesIn (Machine.fenced P F) P (lone (b.atR a (.code c :: k)) cs w) b k cs e a' w'

section
variable {g : FuncId} {F : Fence} {n : Nat} {P : Program} {Q : Exit → Act → World → Prop} {a : Act} {w : World}

theorem wpOf_of {c : Code} (h : c.wpIn F n P Q a w) : wpOf g F n P c Q a w := fun b k cs _ hro hb hr => h b k cs hro hb hr

theorem wpOf_seq {x y : Code} (h : wpOf g F n P x (Exit.then (wpOf g F n P y Q) Q) a w) : wpOf g F n P (.seq x y) Q a w := by
 intro b k cs hg hro hb hr
 have h0 : (lone (b.atR a (.code (.seq x y) :: k)) cs w).fenced P F := fenced_calm hb hr rfl
 obtain ⟨e, a₁, w₁, hq, harr⟩ := h b (.code y :: k) cs hg hro hb hr
 cases e with
 | normal =>
  obtain ⟨e₂, a₂, w₂, hq₂, harr₂⟩ := hq b k cs hg hro hb hr
  exact ⟨e₂, a₂, w₂, hq₂, .of_steps (.head h0 stepR_seq harr) harr₂⟩
 | exit id => exact ⟨_, a₁, w₁, hq, .of_steps (.one h0 stepR_seq) (.pass (x := .code y) rfl (fun _ _ => .inl (by simp)) harr)⟩
 | goto l => exact ⟨_, a₁, w₁, hq, .of_steps (.one h0 stepR_seq) (.pass (x := .code y) rfl (fun _ _ => .inl (by simp)) harr)⟩
 | ret => exact ⟨_, a₁, w₁, hq, .of_steps (.one h0 stepR_seq) (.pass (x := .code y) rfl (fun _ _ => .inl (by simp)) harr)⟩
 | panic ch => exact ⟨_, a₁, w₁, hq, .of_steps (.one h0 stepR_seq) (.pass (x := .code y) rfl (fun _ _ => .inl (by simp)) harr)⟩
 | outgrown => exact ⟨_, a₁, w₁, hq, .of_steps (.one h0 stepR_seq) (.pass (x := .code y) rfl (fun _ _ => .inl (by simp)) harr)⟩

theorem wpOf_block {id : Nat} {c : Code} (h : wpOf g F n P c (Exit.inBlock id Q) a w) : wpOf g F n P (.block id c) Q a w := by
 intro b k cs hg hro hb hr
 have h0 : (lone (b.atR a (.code (.block id c) :: k)) cs w).fenced P F := fenced_calm hb hr rfl
 obtain ⟨e, a₁, w₁, hq, harr⟩ := h b (.inBlock id :: k) cs hg hro hb hr
 cases e with
 | normal => exact ⟨.normal, a₁, w₁, hq, .head h0 stepR_block (StepsIn.trans harr (.one (fenced_calm hb hr rfl) stepR_inBlock))⟩
 | exit id' =>
  by_cases hid : id' = id
  ·simp only [Exit.inBlock, hid, if_true] at hq
   exact ⟨.normal, a₁, w₁, hq, .head h0 stepR_block (harr.1 k (by simp [exitTo, hid]))⟩
  ·simp only [Exit.inBlock, hid, if_false] at hq
   have this : (id == id') = false := by simp; exact fun h => hid h.symm
   have hx : exitTo id' (.inBlock id :: k) = exitTo id' k := by simp [exitTo, this]
   exact ⟨.exit id', a₁, w₁, hq, fun k' hk => .head h0 stepR_block (harr.1 k' (by rw [hx]; exact hk)),
    fun hr' hk => let ⟨k₁, h1, h2⟩ := harr.2 hr' (by rw [hx]; exact hk); ⟨k₁, h1, .head h0 stepR_block h2⟩⟩
 | goto l =>
  have hx : gotoIn l (.inBlock id :: k) = gotoIn l k := by simp [gotoIn]
  exact ⟨_, a₁, w₁, hq, fun k' hk => .head h0 stepR_block (harr.1 k' (by rw [hx]; exact hk)),
   fun hr' hk => let ⟨k₁, h1, h2⟩ := harr.2 hr' (by rw [hx]; exact hk); ⟨k₁, h1, .head h0 stepR_block h2⟩⟩
 | ret => exact ⟨_, a₁, w₁, hq, .of_steps (.one h0 stepR_block) harr⟩
 | panic ch => exact ⟨_, a₁, w₁, hq, .of_steps (.one h0 stepR_block) harr⟩
 | outgrown => exact ⟨_, a₁, w₁, hq, .of_steps (.one h0 stepR_block) harr⟩

theorem callsIn_of_wpOf {fn : Func} {c : Code} {args : Array Value} {R : Ending → World → Prop}
  (hf : P.funcs[g]? = some fn) (hb : fn.body = some c) (hF : F.fn g)
  (h : wpOf g F n P c (bodyPostM F n P fn R) { tmps := args ++ Array.replicate (fn.ntmps - args.size) undef, defers := [] } w) (hro : F.round = none := by rfl) : CallsIn F n P g args w R := by
 refine ⟨hF, fun cs hr => ?_⟩
 let b : Frame := { (default : Frame) with fn := g, kind := .normal, roundOf := none }
 have henter : Frame.enter P g args .normal =
   b.atR { tmps := args ++ Array.replicate (fn.ntmps - args.size) undef, defers := [] } [.code c] := by
  simp [Frame.enter, Frame.atR, hf, hb, b]
 obtain ⟨e, a', w', hq, harr⟩ := h b [] cs rfl hro.symm hF hr
 rw [← henter] at harr
 cases e with
 | normal =>
  obtain ⟨e', w'', fr', hR, hs, hfn, hl⟩ := leaves_stepsInM a'.defers .returning w' { b.atR a' [] with mode := .returning } cs rfl rfl rfl hf rfl hF hr hq
  exact ⟨e', w'', fr', hR, ComesIn.of_steps (StepsIn.trans harr (.one (fenced_calm (fr := b.atR a' []) hF hr rfl) (stepR_end rfl))) hs, hfn, hl⟩
 | ret =>
  obtain ⟨todo, hs₀⟩ := harr.1 rfl
  obtain ⟨e', w'', fr', hR, hs, hfn, hl⟩ := leaves_stepsInM a'.defers .returning w' { b.atR a' todo with mode := .returning } cs rfl rfl rfl hf rfl hF hr hq
  exact ⟨e', w'', fr', hR, ComesIn.of_steps hs₀ hs, hfn, hl⟩
 | panic chain =>
  obtain ⟨todo, hs₀⟩ := harr
  obtain ⟨e', w'', fr', hR, hs, hfn, hl⟩ := leaves_stepsInM a'.defers (.panicking chain) w' { b.atR a' todo with mode := .panicking chain } cs rfl rfl rfl hf rfl hF hr hq
  exact ⟨e', w'', fr', hR, ComesIn.of_steps hs₀ hs, hfn, hl⟩
 | exit id => exact hq.elim
 | goto l => exact hq.elim
 | outgrown => exact ⟨.outgrown, w', b, hq, harr.resolve_left (by simp [b]), rfl, trivial⟩

/-- How a round's body may be left: by a panic, too. -/
def roundPostP (P : Program) (l : Nat) (R : Ending → World → Prop) : Exit → Act → World → Prop
 | .normal, a, w => roundPost P l R .normal a w
 | .ret, a, w => roundPost P l R .ret a w
 | .panic ch, a, w => a.defers = [] ∧ R (.panicked ch) w
 | _, _, _ => False

theorem roundIn_pan {l : Nat} {f : FuncId} {fn : Func} {tmps : Array Value} {assign body : Code} {R : Ending → World → Prop} (hfn : P.funcs[f]? = some fn) (hF : F.fn f)
  (h : assign.wpIn (F.inRound l) n P (Exit.then (fun a₁ w₁ => ∃ w₂, (Instr.beginRound l).run P w₁ = .ok () w₂ ∧ body.wpIn (F.inRound l) n P (roundPostP P l R) a₁ w₂) (fun _ _ _ => False))
   { tmps := tmps, defers := [] } w) :
  RoundIn F n P l f tmps assign body w R := by
 refine ⟨hF, fun c cs hr => ?_⟩
 let b : Frame := { (default : Frame) with fn := f, kind := .normal, roundOf := some l }
 have hb0 : Frame.round l f tmps assign body .normal = b.atR { tmps := tmps, defers := [] } [.code assign, .beginRound, .code body] := by
  simp [Frame.round, Frame.atR, b]
 have hr' : (F.inRound l).room ((c :: cs).length + 1 + n) := hr
 have hF' : (F.inRound l).fn b.fn := hF
 obtain ⟨e, a₁, w₁, hq, harr⟩ := h b [.beginRound, .code body] (c :: cs) rfl hF' hr'
 rw [← hb0] at harr
 cases e with
 | normal =>
  obtain ⟨w₂, hbr, hbody⟩ := hq
  have s1 : StepsIn (Machine.fenced P (F.inRound l)) P (lone (b.atR a₁ [.beginRound, .code body]) (c :: cs) w₁) (lone (b.atR a₁ [.code body]) (c :: cs) w₂) :=
   .one (fenced_calm (fr := b.atR a₁ [.beginRound, .code body]) hF' hr' rfl) (stepR_beginRound rfl hbr)
  obtain ⟨e₂, a₂, w₃, hq₂, harr₂⟩ := hbody b [] (c :: cs) rfl hF' hr'
  cases e₂ with
  | normal =>
   obtain ⟨v, w₄, hend, hR⟩ := hq₂
   exact ⟨.returned v, w₄, hR, (StepsIn.trans harr s1).trans (StepsIn.trans harr₂ (.one (fenced_calm (fr := b.atR a₂ []) hF' hr' rfl) (stepR_round_end rfl rfl hend)))⟩
  | ret =>
   obtain ⟨v, w₄, hend, hR⟩ := hq₂
   obtain ⟨k₁, hs⟩ := harr₂.2 rfl
   exact ⟨.returned v, w₄, hR, (StepsIn.trans harr s1).trans (StepsIn.trans hs (.one (fenced_calm (fr := b.atR a₂ (.code .ret :: k₁)) hF' hr' rfl) (stepR_round_ret rfl rfl hend)))⟩
  | panic chain =>
   obtain ⟨hd, hR⟩ := hq₂
   obtain ⟨todo, hs⟩ := harr₂
   have hl : Frame.leaving P { b.atR a₂ todo with mode := .panicking chain } w₃ (.panicked chain) := ⟨rfl, hd, fn, hfn⟩
   exact ⟨.panicked chain, w₃, hR, (StepsIn.trans harr s1).trans (StepsIn.trans hs (.one (fenced_leaving (fr := { b.atR a₂ todo with mode := .panicking chain }) hF' hr' hl) (step_leave_panicked hl)))⟩
  | exit id => exact hq₂.elim
  | goto t => exact hq₂.elim
  | outgrown => exact hq₂.elim
 | exit id => exact hq.elim
 | goto t => exact hq.elim
 | ret => exact hq.elim
 | panic chain => exact hq.elim
 | outgrown => exact hq.elim

theorem wpOf_rangeFunc {gv : Operand} {ps : Array Tmp} {assign body : Code}
  (h : ∃ (l : Nat) (mark : List Deferred) (w₁ : World) (d : Deferred) (w₁' : World) (f : FuncId) (args : Array Value) (w₂ : World),
   (Instr.enterLoop g a.tmps ps assign body F.round).run P w = .ok (l, mark) w₁ ∧
   (resolve a.eval (rangeCall gv l) 0).run P w₁ = .ok d w₁' ∧
   (∀ f', Target.leads P w₁' d.target d.args = some f' → F.fn f') ∧
   (invoke d.target d.args).run P w₁' = .ok (.enter f args) w₂ ∧
   (F.depth.isSome = true → 1 ≤ n) ∧
   CallsIn F (n - 1) P f args w₂ (rangePost F n P l Q { a with defers := mark ++ a.defers })) :
  wpOf g F n P (.rangeFunc gv ps assign body) Q a w := by
 intro b k cs hbg hro hb hr
 obtain ⟨l, mark, w₁, d, w₁', f, args, w₂, he, hres, hlead, hinv, hn, hF, hcall⟩ := h
 rw [← hro, ← hbg] at he
 have h0 : (lone (b.atR a (.code (.rangeFunc gv ps assign body) :: k)) cs w).fenced P F := by
  refine fenced_lone (.inl hb) (fun f' hf' => hlead f' ?_) (Fence.room_le hr (by omega))
  have hev := Frame.eval_atR b a (.code (.rangeFunc gv ps assign body) :: k)
  simp only [Frame.atR] at hev
  simp only [Frame.about, Frame.atR, he, hev, hres] at hf'
  exact hf'
 have henter := stepR_rangeFunc (P := P) (b := b) (a := a) (k := k) (cs := cs) (w := w) he hres hinv
 have hroom : F.room ((b.atR { a with defers := mark ++ a.defers } (.inRangeFunc l :: k) :: cs).length + 1 + (n - 1)) := Fence.room_enter hr hn
 obtain ⟨e, w₃, fr, hR, hsteps, hfn, hleave⟩ := hcall (b.atR { a with defers := mark ++ a.defers } (.inRangeFunc l :: k) :: cs) hroom
 cases e with
 | outgrown =>
  obtain ⟨a₀, w₀, hq⟩ := hR
  exact ⟨.outgrown, a₀, w₀, hq, .inr (Outgrown.of_steps (.one henter) hsteps)⟩
 | returned v =>
  have hl : (lone fr (b.atR { a with defers := mark ++ a.defers } (.inRangeFunc l :: k) :: cs) w₃).fenced P F := fenced_leaving (hfn ▸ hF) hroom hleave
  obtain ⟨jump, w₄, hend, hj⟩ := hR
  have sback : StepsIn (Machine.fenced P F) P (lone (b.atR a (.code (.rangeFunc gv ps assign body) :: k)) cs w) (lone (b.atR { a with defers := mark ++ a.defers } ((jump.map Item.code).toList ++ k)) cs w₄) := by
   refine .head h0 henter (StepsIn.trans hsteps (.head hl ?_ (.one (fenced_calm (fr := b.atR { a with defers := mark ++ a.defers } (.endRangeFunc l :: k)) hb hr rfl) (stepR_endRangeFunc hend))))
   rw [← finish_atR_inRangeFunc l v]; exact step_leave_returned hleave
  cases jump with
  | none => exact ⟨.normal, _, w₄, hj, sback⟩
  | some c =>
   obtain ⟨e', a'', w₅, hq, harr⟩ := hj b k cs hro hb hr
   exact ⟨e', a'', w₅, hq, .of_steps sback harr⟩
 | panicked chain =>
  have hl : (lone fr (b.atR { a with defers := mark ++ a.defers } (.inRangeFunc l :: k) :: cs) w₃).fenced P F := fenced_leaving (hfn ▸ hF) hroom hleave
  refine ⟨.panic chain, _, w₃, hR, .inRangeFunc l :: k, .head h0 henter (StepsIn.trans hsteps (.one hl ?_))⟩
  rw [← Frame.raise_atR]; exact step_leave_panicked hleave
end

/-- What a round that asks f of x does. -/
def Round2 {X : Type} (f : X → Bool) (J Jx : World → Prop) (Jp : List PanicEntry → World → Prop) (x : X) (A : World) (e : Ending) (B : World) : Prop :=
 (e = .returned (.bool true) ∧ f x = true ∧ Kept 0 A B ∧ J B) ∨ (e = .returned (.bool false) ∧ f x = false ∧ Jx B) ∨ ∃ ch, e = .panicked ch ∧ f x = false ∧ Jp ch B

/-- What an iterator promises: all that it hands out is as E says; it comes to its end where res is true; else a round has told false, or panicked. -/
def Steps2 {X : Type} (P : Program) (gf : Nat) (lb : Array Value) (E : X → Array Value → World → Prop) (f : X → Bool) (res : Bool) (W0 : World) : Prop :=
 ∀ (l : Nat) (J Jx : World → Prop) (Jp : List PanicEntry → World → Prop) (W : World), Kept 0 W0 W →
  (∀ A B, J A → Below W.heap.size A B → J B) → (∀ A B, Jx A → Below W.heap.size A B → Jx B) → (∀ ch A B, Jp ch A → Below W.heap.size A B → Jp ch B) →
  (∀ x args A, J A → Kept 0 W A → E x args A → Asks P l args A (Round2 f J Jx Jp x A)) →
  J W → Calls P gf (#[.func (.yield l) #[] #[]] ++ lb) W fun e B => ((∃ v, e = .returned v) ∧ (res = true ∧ J B ∨ res = false ∧ Jx B)) ∨ ∃ ch, e = .panicked ch ∧ res = false ∧ Jp ch B

/-- How the body of such a round may be left. -/
def stepPost {X : Type} (n : Nat) (f : X → Bool) (Ix : World → Prop) (Ip : List PanicEntry → World → Prop) (x : X) (W : World) : Exit → Act → World → Prop
 | .normal, _, W' => f x = true ∧ Keeps [] W W'
 | .ret, _, W' => f x = false ∧ Over n W W' ∧ Ix W'
 | .panic ch, a, W' => a.defers = [] ∧ f x = false ∧ Over n W W' ∧ Ip ch W'
 | _, _, _ => False

end Go.Proofs.YtbfebljahjmjfaaGreatDoor
/- ber: two values gone over in step. -/
namespace Go.Proofs.YtbfebljahjmjfaaGreatDoor
open Go.RowKit Go.Shelf
set_option linter.unusedVariables false
set_option linter.unusedSimpArgs false
set_option maxRecDepth 100000
attribute [local go_sem] Oper.semAt_some

mutual
/-- How many values a value is. -/
def nodesB : BV → Nat
 | .mk _ _ _ _ l => 1 + nodesL l
def nodesL : List BV → Nat
 | [] => 0
 | t :: r => nodesB t + nodesL r
end
mutual
/-- Does f hold of all that stands at the same places? -/
def allB (f : BV × BV → Bool) : BV → BV → Bool
 | .mk c n k b l, y => f (.mk c n k b l, y) && allL f l y.l
def allL (f : BV × BV → Bool) : List BV → List BV → Bool
 | [], _ => true
 | _ :: _, [] => true
 | x :: r, y :: s => allB f x y && allL f r s
end
theorem allB_mk (f : BV × BV → Bool) (x y : BV) : allB f x y = (f (x, y) && allL f x.l y.l) := by
 obtain ⟨c, n, k, b, l⟩ := x
 simp [allB, BV.l]
theorem nodesB_mk (x : BV) : nodesB x = 1 + nodesL x.l := by
 obtain ⟨c, n, k, b, l⟩ := x
 simp [nodesB, BV.l]
theorem allL_nil_r (f : BV × BV → Bool) : ∀ l : List BV, allL f l [] = true
 | [] => by simp [allL]
 | x :: r => by simp [allL]

/-- The least number. -/
theorem least_exb5 {R : Nat → Prop} (h : ∃ m, R m) : ∃ m, R m ∧ ∀ k, R k → m ≤ k := by
 obtain ⟨m, hm⟩ := h
 induction m using Nat.strongRecOn with
 | _ m ih =>
  by_cases hk : ∃ k, k < m ∧ R k
  ·obtain ⟨k, h1, h2⟩ := hk
   exact ih k h1 h2
  ·exact ⟨m, hm, fun k h => Nat.le_of_not_lt fun hlt => hk ⟨k, hlt, h⟩⟩
open Classical in
noncomputable def leastOfb5 (R : Nat → Prop) : Nat := if h : ∃ m, R m then (least_exb5 h).choose else 0
theorem least_isb5 {R : Nat → Prop} (h : ∃ m, R m) : R (leastOfb5 R) := by
 unfold leastOfb5
 rw [dif_pos h]
 exact (least_exb5 h).choose_spec.1
theorem least_leb5 {R : Nat → Prop} {m : Nat} (h : R m) : leastOfb5 R ≤ m := by
 unfold leastOfb5
 rw [dif_pos ⟨m, h⟩]
 exact (least_exb5 ⟨m, h⟩).choose_spec.2 m h

/-- A value stays where cells stay. -/
theorem BytesAt.map {w w' : World} {v : Value} {xs : List UInt8} (hc : ∀ p u, w.cell? p = some u → w'.cell? p = some u) (h : BytesAt w v xs) : BytesAt w' v xs := by
 obtain ⟨A, c, rfl, h1, h2, h3⟩ := h
 refine ⟨A, c, rfl, h1, h2, fun hp => ?_⟩
 obtain ⟨b, o, rfl, h4⟩ := h3 hp
 exact ⟨b, o, rfl, fun i u hu => hc _ _ (h4 i u hu)⟩
mutual
theorem BerAt.map {w w' : World} (hc : ∀ p u, w.cell? p = some u → w'.cell? p = some u) : ∀ (t : BV) (h : BH), BerAt w t h → BerAt w' t h
 | .mk c n k b l, h, ⟨h1, h2, h3, h4, h5, h6, h7, h8, h9, h10, h11⟩ => ⟨h1, h2, h3, h4, h5, h6, h7.map hc, h8, h9, h10, ItemsAt.map hc h.B 0 l h11⟩
theorem ItemsAt.map {w w' : World} (hc : ∀ p u, w.cell? p = some u → w'.cell? p = some u) (B : Option Addr) : ∀ (i : Nat) (l : List BV), ItemsAt w B i l → ItemsAt w' B i l
 | _, [], _ => trivial
 | i, t :: r, ⟨⟨b, o, h, h1, h2, h3⟩, h4⟩ => ⟨⟨b, o, h, h1, fun j u hu => hc _ _ (h2 j u hu), BerAt.map hc t h h3⟩, ItemsAt.map hc B (i + 1) r h4⟩
end
theorem cell_put {w : World} {l : Nat} {o o' : Obj} (hl : w.heap[l]? = some o') (ho : o'.isCells = false) (p : Addr) (u : Value) (h : w.cell? p = some u) : (w.putObj l o).cell? p = some u := by
 obtain ⟨o2, h5, h6⟩ := cells_of_cell h
 have hne : p.block ≠ l := by
  intro e
  rw [e, hl] at h5
  cases h5
  rw [ho] at h6
  cases h6
 exact (World.cell?_of_block (World.putObj_heap_other hne)).trans h

/-- Two values handed out. -/
def InE (x : BV × BV) (args : Array Value) (W : World) : Prop := ∃ hx hy, args = #[BH.val hx, BH.val hy] ∧ BerAt W x.1 hx ∧ BerAt W x.2 hy

/-- A pair of rows on the stack. -/
structure SR where
 A : Option Addr
 la : Nat
 ca : Nat
 B : Option Addr
 lb : Nat
 cb : Nat
 x : List BV
 y : List BV
def SR.cells (s : SR) : List Value := [.slice s.A s.la s.ca, .slice s.B s.lb s.cb]
def SR.ok (s : SR) (w : World) : Prop := (s.x.length = s.la ∧ s.la ≤ s.ca ∧ s.ca ≤ 9223372036854775807 ∧ ItemsAt w s.A 0 s.x) ∧ (s.y.length = s.lb ∧ s.lb ≤ s.cb ∧ s.cb ≤ 9223372036854775807 ∧ ItemsAt w s.B 0 s.y)
theorem SR.ok.map {s : SR} {w w' : World} (h : s.ok w) (hc : ∀ p u, w.cell? p = some u → w'.cell? p = some u) : s.ok w' :=
 ⟨⟨h.1.1, h.1.2.1, h.1.2.2.1, ItemsAt.map hc _ _ _ h.1.2.2.2⟩, ⟨h.2.1, h.2.2.1, h.2.2.2.1, ItemsAt.map hc _ _ _ h.2.2.2.2⟩⟩
def stackV (S : List SR) : List Value := S.flatMap SR.cells
theorem stackV_len : ∀ S : List SR, (stackV S).length = S.length * 2
 | [] => rfl
 | s :: r => by
  have := stackV_len r
  unfold stackV at *
  rw [List.flatMap_cons, List.length_append, this, List.length_cons]
  show 2 + _ = _
  omega
theorem stackV_snoc (S : List SR) (s : SR) : stackV (S ++ [s]) = stackV S ++ [.slice s.A s.la s.ca, .slice s.B s.lb s.cb] := by
 simp [stackV, SR.cells]
def allS (f : BV × BV → Bool) (S : List SR) : Bool := S.all fun s => allL f s.x s.y
theorem allS_snoc (f : BV × BV → Bool) (S : List SR) (s : SR) : allS f (S ++ [s]) = (allS f S && allL f s.x s.y) := by simp [allS]
def nodesS (S : List SR) : Nat := (S.map fun s => 1 + nodesL s.x).sum
theorem nodesS_snoc (S : List SR) (s : SR) : nodesS (S ++ [s]) = nodesS S + (1 + nodesL s.x) := by simp [nodesS]
theorem nodesS_len : ∀ S : List SR, S.length ≤ nodesS S
 | [] => Nat.zero_le _
 | s :: r => by
  have := nodesS_len r
  unfold nodesS at *
  simp at *
  omega

/-- What the rounds over the stack find: V is the memory ahead of the stack. -/
def StepR (f : BV × BV → Bool) (res : Bool) (J : World → Prop) (V : World) (v : Value) (wr : World) (m : Nat) : Prop :=
 ∃ (S : List SR) (g : Option Addr) (d : Nat), v = .slice g S.length d ∧ nodesS S = m ∧ m ≤ 1000000001 ∧ wr.ownsRow V.heap.size 204 2 v S.length (stackV S) ∧ (∀ s ∈ S, s.ok V) ∧ allS f S = res ∧ J wr ∧ Kept 0 V wr

theorem Kept.own {V a b : World} {bs : List Nat} (h : Kept 0 V a) (hk : Keeps bs a b) (hb : ∀ x ∈ bs, V.heap.size ≤ x) : Kept 0 V b :=
 ⟨hk.os.trans h.os, hk.tape.trans h.tape, hk.output.trans h.output, Nat.le_trans h.size hk.size, fun k o ho hi => (hk.block k (Nat.lt_of_lt_of_le (lt_of_heap ho) h.size) (fun hm => by have := hb k hm; have := lt_of_heap ho; omega)).trans (h.block k o ho hi)⟩
theorem allL_at (f : BV × BV → Bool) {sx sy : List BV} {j : Nat} {x y : BV} (hx : sx[j]? = some x) (hy : sy[j]? = some y) : allL f (sx.drop j) (sy.drop j) = (allB f x y && allL f (sx.drop (j + 1)) (sy.drop (j + 1))) := by
 obtain ⟨h1, rfl⟩ := List.getElem?_eq_some_iff.1 hx
 obtain ⟨h2, rfl⟩ := List.getElem?_eq_some_iff.1 hy
 rw [List.drop_eq_getElem_cons h1, List.drop_eq_getElem_cons h2]
 simp [allL]
theorem nodesL_at {sx : List BV} {j : Nat} {x : BV} (hx : sx[j]? = some x) : nodesL (sx.drop j) = nodesB x + nodesL (sx.drop (j + 1)) := by
 obtain ⟨h1, rfl⟩ := List.getElem?_eq_some_iff.1 hx
 rw [List.drop_eq_getElem_cons h1]
 simp [nodesL]
theorem BerAt.items {w : World} {t : BV} {h : BH} (ht : BerAt w t h) : t.l.length = h.lb ∧ h.lb ≤ h.cb ∧ h.cb ≤ 9223372036854775807 ∧ ItemsAt w h.B 0 t.l := by
 obtain ⟨c, n, k, b, l⟩ := t
 obtain ⟨h1, h2, h3, h4, h5, h6, h7, h8, h9, h10, h11⟩ := ht
 exact ⟨h8, h9, h10, h11⟩

/-- The last pair of an own row, and the row before it. -/
theorem own_popb5 {w : World} {base n d : Nat} {e : TypeId} {g : Option Addr} {xs : List Value} {a b : Value} (h : w.ownsRow base e 2 (.slice g (n + 1) d) (n + 1) (xs ++ [a, b])) (hx : xs.length = n * 2) :
  ∃ k, g = some ⟨k, 0, none⟩ ∧ base ≤ k ∧ k < w.heap.size ∧ n + 1 ≤ d ∧ d ≤ maxLen ∧ w.cell? ⟨k, 0 + n * 2, none⟩ = some a ∧ w.cell? ⟨k, 0 + n * 2 + 1, none⟩ = some b ∧ w.ownsRow base e 2 (.slice g n d) n xs := by
 obtain ⟨h1, h2⟩ := h
 rcases h2 with ⟨_, h2⟩ | ⟨k, cap, cur, hv, hb, hh, hnc, hcm, hcs, ht⟩
 ·omega
 ·injection hv with e1 e2 e3
  subst e1 e3
  have hlt := lt_of_heap hh
  have get : ∀ j, j < (n + 1) * 2 → w.cell? ⟨k, j, none⟩ = (xs ++ [a, b])[j]? := fun j hj => by
   rw [cell_of_blk hh j, ← ht, List.getElem?_take]
   simp [hj]
  refine ⟨k, rfl, hb, hlt, hnc, hcm, ?_, ?_, hx, .inr ⟨k, d, cur, rfl, hb, hh, by omega, hcm, hcs, ?_⟩⟩
  ·rw [Nat.zero_add, get (n * 2) (by omega), List.getElem?_append_right (by omega), hx]
   simp
  ·rw [Nat.zero_add, get (n * 2 + 1) (by omega), List.getElem?_append_right (by omega), hx]
   simp
  ·have h9 := congrArg (List.take (n * 2)) ht
   rw [List.take_take, Nat.min_eq_left (by omega), ← hx, List.take_left] at h9
   rw [hx] at h9
   exact h9

theorem bpair_info : (Tryz.prog.info? 204).map (fun i => (i.zero, i.size, i.bytes)) = some (some (.agg #[.slice none 0 0, .slice none 0 0]), 2, 48) := by kernel_rfl

end Go.Proofs.YtbfebljahjmjfaaGreatDoor
