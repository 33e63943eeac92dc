/- Texts of one proof, laid together: E33 E34 E35. -/
import Derived.Test.YtnengckecooohaaM12
import Derived.Defers
/- A range over a function whose rounds may panic, where what a round begins with hangs on the world. -/
namespace Go.Proofs.Ytnengckecooohaa
open Go.RowKit Go.Shelf
set_option linter.unusedVariables false
set_option linter.unusedSimpArgs false

theorem range_steps_w {X : Type} {P : Program} {gid : FuncId} {fnG : Func} (hfG : P.funcs[gid]? = some fnG) {n : Nat} {g : Operand} {ps : Array Tmp} {assign body : Code} {Q : Exit → Act → World → Prop} {a : Act} {w : World} {gf : Nat} {lb : Array Value} {E : X → Array Value → World → Prop} {f : X → Bool} {res : Bool}
    (hg : a.eval g = .func (.func gf) #[] lb) (eg : ∀ args w, (callFunc gf args).run P w = .ok (.enter gf args) w) (hseq : Steps2 P gf lb E f res w)
    (hps : ∀ x args W, E x args W → args.size = ps.size)
    (hE : ∀ x args A l o, E x args A → (∃ o', A.heap[l]? = some o' ∧ o'.isCells = false) → E x args (A.putObj l o))
    (Ix : World → Prop) (Ip : List PanicEntry → World → Prop) (hIx : ∀ A B, Ix A → Below w.heap.size A B → Ix B) (hIp : ∀ ch A B, Ip ch A → Below w.heap.size A B → Ip ch B) (A₁ : Array Value → World → Act → Prop) (hA₁ : ∀ args A b l o, A₁ args A b → (∃ o', A.heap[l]? = some o' ∧ o'.isCells = false) → A₁ args (A.putObj l o) b)
    (hassign : ∀ (l : Nat) (x : X) (args : Array Value) (W : World) (K : Act → World → Prop), E x args W → (∀ b W', Keeps [] W W' → A₁ args W' b → K b W') →
      assign.wpIn (Fence.wide.inRound l) 3 P (Exit.then K (fun _ _ _ => False)) { tmps := (ps.zip args).foldl (fun t (p, v) => t.setIfInBounds p v) a.tmps, defers := [] } W)
    (hbody : ∀ (l : Nat) (x : X) (args : Array Value) (W : World) (b : Act), Below w.heap.size w W → w.heap.size + 2 ≤ W.heap.size → E x args W → A₁ args W b → body.wpIn (Fence.wide.inRound l) 3 P (stepPost w.heap.size f Ix Ip x W) b W)
    (hEK : ∀ x args A B, E x args A → Keeps [] A B → E x args B)
    (hdone : ∀ (W : World), res = true → Below w.heap.size w W → W.heap[w.heap.size]? = some (.deferred (some [])) → Q .normal { a with defers := { target := .collected w.heap.size, args := #[] } :: a.defers } W)
    (hstop : ∀ (W : World), res = false → Ix W → W.heap[w.heap.size]? = some (.deferred (some [])) → Code.ret.wpIn Fence.wide n P Q { a with defers := { target := .collected w.heap.size, args := #[] } :: a.defers } W)
    (hpan : ∀ (ch : List PanicEntry) (W : World), res = false → Ip ch W → W.heap[w.heap.size]? = some (.deferred (some [])) → Q (.panic ch) { a with defers := { target := .collected w.heap.size, args := #[] } :: a.defers } W) :
    wpOf gid Fence.wide n P (Code.rangeFunc g ps assign body) Q a w := by
  refine wpOf_rangeFunc ?_
  let rec_ : LoopState → Option Code → Loop := fun st pe => { state := st, pending := pe, fn := gid, tmps := a.tmps, params := ps, assign, body, defers := w.heap.size }
  obtain ⟨W1, hW1⟩ : ∃ W1, (w.alloc (.deferred (some []))).alloc (.loop (rec_ .ready none)) = W1 := ⟨_, rfl⟩
  have hz1 : W1.heap.size = w.heap.size + 2 := by rw [← hW1]; simp
  have hk1 : Keeps [] w W1 := by rw [← hW1]; exact ((Keeps.refl [] w).alloc _).alloc _
  have hL1 : W1.heap[w.heap.size + 1]? = some (.loop (rec_ .ready none)) := by
    rw [← hW1]
    have := World.alloc_heap_new (w.alloc (.deferred (some []))) (.loop (rec_ .ready none))
    rwa [World.size_alloc] at this
  have hK1 : W1.heap[w.heap.size]? = some (.deferred (some [])) := by
    rw [← hW1]
    exact (Below.heap_alloc _ _ _ (by simp)).trans (World.alloc_heap_new w _)
  refine ⟨w.heap.size + 1, [{ target := .collected w.heap.size, args := #[] }], W1, { target := .fn (.func gf) lb, args := #[.func (.yield (w.heap.size + 1)) #[] #[]] }, W1, gf, #[.func (.yield (w.heap.size + 1)) #[] #[]] ++ lb, W1, ?_, ?_, fun _ _ => trivial, ?_, fun h => (by simp [Fence.wide] at h), callsIn_wide.2 ?_⟩
  · rw [← hW1]
    exact run_enterLoop_outer _ _ _ _ _
  · simp only [resolve, hg]
    simp [go_sem]
  · simp [invoke, go_sem, eg]
  have low : ∀ {A B : World}, Below W1.heap.size A B → Below w.heap.size A B := fun h => ⟨h.os, h.tape, h.output, h.size, fun i hi => h.block i (by omega)⟩
  refine (hseq (w.heap.size + 1)
    (fun W => Below w.heap.size w W ∧ W.heap[w.heap.size + 1]? = some (.loop (rec_ .ready none)) ∧ W.heap[w.heap.size]? = some (.deferred (some [])))
    (fun W => Ix W ∧ W.heap[w.heap.size + 1]? = some (.loop (rec_ .done (some .ret))) ∧ W.heap[w.heap.size]? = some (.deferred (some [])))
    (fun ch W => Ip ch W ∧ W.heap[w.heap.size]? = some (.deferred (some [])))
    W1 (Kept.of_keeps hk1)
    (fun A B h hb => ⟨h.1.trans (low hb), (hb.block _ (by omega)).trans h.2.1, (hb.block _ (by omega)).trans h.2.2⟩)
    (fun A B h hb => ⟨hIx A B h.1 (low hb), (hb.block _ (by omega)).trans h.2.1, (hb.block _ (by omega)).trans h.2.2⟩)
    (fun ch A B h hb => ⟨hIp ch A B h.1 (low hb), (hb.block _ (by omega)).trans h.2⟩)
    ?_ ⟨hk1.below (Nat.le_refl _) (by simp), hL1, hK1⟩).mono ?_
  · rintro x args A ⟨hBA, hl, hd⟩ hKA hEA
    refine Asks.of (m := 3) ⟨gid, _, assign, body, run_yield (P := P) (args := args) hl (hps _ _ _ hEA), roundIn_pan hfG trivial (hassign _ x args A _ hEA fun b1 A1 hkA hab => ?_)⟩
    have hlt : w.heap.size + 1 < A.heap.size := (Array.getElem?_eq_some_iff.1 hl).1
    have hl1 : A1.heap[w.heap.size + 1]? = some (.loop (rec_ .ready none)) := (hkA.block _ hlt (by simp)).trans hl
    have hd1 : A1.heap[w.heap.size]? = some (.deferred (some [])) := (hkA.block _ (by omega) (by simp)).trans hd
    have hlt1 : w.heap.size + 1 < A1.heap.size := (Array.getElem?_eq_some_iff.1 hl1).1
    have hE1 := hEK _ _ _ _ hEA hkA
    refine ⟨_, run_beginRound hl1 rfl, ?_⟩
    obtain ⟨A2, hA2⟩ : ∃ A2, A1.putObj (w.heap.size + 1) (.loop { rec_ .ready none with state := .busy }) = A2 := ⟨_, rfl⟩
    have hb2 : Kept w.heap.size A1 A2 := by rw [← hA2]; exact Kept.put (by omega) hl1 rfl
    have hc2 : Kept 0 A1 A2 := hb2.mono (Nat.zero_le _)
    have hl2 : A2.heap[w.heap.size + 1]? = some (.loop { rec_ .ready none with state := .busy }) := by rw [← hA2]; exact World.putObj_heap_same hlt1
    have hd2 : A2.heap[w.heap.size]? = some (.deferred (some [])) := by rw [← hA2]; exact (World.putObj_heap_other (by omega)).trans hd1
    have hE2 : E x args A2 := by rw [← hA2]; exact hE x args A1 _ _ hE1 ⟨_, hl1, rfl⟩
    have hz2 : A2.heap.size = A1.heap.size := by rw [← hA2]; exact World.putObj_size
    rw [hA2]
    have hB2 : Below w.heap.size w A2 := (hBA.trans (hkA.below (by omega) (by simp))).trans (hb2.below (by omega))
    refine wpIn_mono (hbody _ x args A2 b1 hB2 (by omega) hE2 (by rw [← hA2]; exact hA₁ _ _ _ _ _ hab ⟨_, hl1, rfl⟩)) ?_
    have fin : ∀ (jump : Option Code) (B : World), Over w.heap.size A2 B → (Instr.endRound (w.heap.size + 1) jump).run P B = .ok (.bool jump.isNone) (B.putObj (w.heap.size + 1) (.loop (rec_ (if jump.isNone then .ready else .done) jump))) ∧
        (B.putObj (w.heap.size + 1) (.loop (rec_ (if jump.isNone then .ready else .done) jump))).heap[w.heap.size + 1]? = some (.loop (rec_ (if jump.isNone then .ready else .done) jump)) ∧
        (B.putObj (w.heap.size + 1) (.loop (rec_ (if jump.isNone then .ready else .done) jump))).heap[w.heap.size]? = some (.deferred (some [])) ∧ Kept w.heap.size B (B.putObj (w.heap.size + 1) (.loop (rec_ (if jump.isNone then .ready else .done) jump))) := fun jump B hB => by
      have hl3 := (hB.block (w.heap.size + 1) (by omega) (by omega)).trans hl2
      exact ⟨run_endRound (P := P) jump hl3, World.putObj_heap_same (Array.getElem?_eq_some_iff.1 hl3).1, (World.putObj_heap_other (by omega)).trans ((hB.block _ (Nat.le_refl _) (by omega)).trans hd2), Kept.put (by omega) hl3 rfl⟩
    rintro e a3 B hp
    cases e with
    | normal =>
      obtain ⟨hf, hkB⟩ := hp
      obtain ⟨hr, hl4, hd4, hb4⟩ := fin none B (Over.of_keeps hkB)
      have hzB := hkB.size
      exact ⟨_, _, hr, .inl ⟨rfl, hf, (((Kept.of_keeps hkA).trans hc2).trans (Kept.of_keeps hkB)).trans (hb4.mono (Nat.zero_le _)), ⟨(hB2.trans (hkB.below (by omega) (by simp))).trans (hb4.below (by omega)), hl4, hd4⟩⟩⟩
    | ret =>
      obtain ⟨hf, hoB, hi3⟩ := hp
      obtain ⟨hr, hl4, hd4, hb4⟩ := fin (some .ret) B hoB
      have hzB := hoB.size
      exact ⟨_, _, hr, .inr (.inl ⟨rfl, hf, hIx _ _ hi3 (hb4.below (by omega)), hl4, hd4⟩)⟩
    | panic ch =>
      obtain ⟨hd0, hf, hoB, hi3⟩ := hp
      exact ⟨hd0, .inr (.inr ⟨ch, rfl, hf, hi3, (hoB.block _ (Nat.le_refl _) (by omega)).trans hd2⟩)⟩
    | exit id => exact hp.elim
    | goto t => exact hp.elim
    | outgrown => exact hp.elim
  · rintro e B (⟨⟨v, rfl⟩, (⟨hr, hi, hl, hd⟩ | ⟨hr, hi, hl, hd⟩)⟩ | ⟨ch, rfl, hr, hi, hd⟩)
    · have hlt : w.heap.size + 1 < B.heap.size := (Array.getElem?_eq_some_iff.1 hl).1
      exact ⟨none, _, run_endLoop (P := P) hl (by simp [rec_]), hdone _ hr (hi.trans ((Kept.put (n := w.heap.size) (by omega) hl rfl).below (by omega))) ((World.putObj_heap_other (by omega)).trans hd)⟩
    · have hlt : w.heap.size + 1 < B.heap.size := (Array.getElem?_eq_some_iff.1 hl).1
      exact ⟨some .ret, _, run_endLoop (P := P) hl (by simp [rec_]), hstop _ hr (hIx _ _ hi ((Kept.put (n := w.heap.size) (by omega) hl rfl).below (by omega))) ((World.putObj_heap_other (by omega)).trans hd)⟩
    · exact hpan ch B hr hi hd

end Go.Proofs.Ytnengckecooohaa
/- ber: what may not be, anywhere in a value. -/
namespace Go.Proofs.Ytnengckecooohaa
open Go.RowKit Go.Shelf
set_option linter.unusedVariables false
set_option linter.unusedSimpArgs false
set_option maxRecDepth 100000
attribute [local go_sem] Oper.semAt_some

theorem inmade_is (c n : Nat) (k : Bool) (A : Option Addr) (la ca : Nat) (B : Option Addr) (lb cb : Nat) (c2 n2 : Nat) (k2 : Bool) (A2 : Option Addr) (la2 ca2 : Nat) (B2 : Option Addr) (lb2 cb2 : Nat) (w : World) : Calls Try.prog 43 #[.agg #[.int .u8 (c : Int), .int .u8 (n : Int), .bool k, .slice A la ca, .slice B lb cb], .agg #[.int .u8 (c2 : Int), .int .u8 (n2 : Int), .bool k2, .slice A2 la2 ca2, .slice B2 lb2 cb2]] w fun e w' =>
    e = .returned (.func (.func 63) #[] #[.pointer (some ⟨w.heap.size, 0, none⟩), .pointer (some ⟨w.heap.size + 1, 0, none⟩)]) ∧ (w.alloc (.cells #[.int .u8 (c : Int), .int .u8 (n : Int), .bool k, .slice A la ca, .slice B lb cb] 25)).alloc (.cells #[.int .u8 (c2 : Int), .int .u8 (n2 : Int), .bool k2, .slice A2 la2 ca2, .slice B2 lb2 cb2] 25) = w' := by
  have hmf : ∀ (fn : Fn) (first cap : Array Value) (w : World), (Instr.makeFunc fn first cap).run Try.prog w = .ok (.func fn first cap) w := fun _ _ _ _ => rfl
  go_enter Try.func43, Try.ntmps43
  go_wp2_with fail
  go_ret
  exact ⟨rfl, rfl⟩

set_option maxHeartbeats 1000000 in
theorem muststand_is (t : BV) (h : BH) (w : World) (ht : BerAt w t h) (hn : nodesB t ≤ 1000000000) :
    Calls Try.prog 35 #[h.val] w fun e w' => (allB (fun x => stands x.1) t t = true ∧ e = .returned (.tuple #[]) ∨ allB (fun x => stands x.1) t t = false ∧ e = gaveUp 2) ∧ Keeps [] w w' := by
  have HT := Lib.hid ht
  obtain ⟨c, n, k, A, la, ca, B, lb, cb⟩ := h
  clear ht
  unfold BH.val
  refine (callsIn_wide (n := 3)).1 ?_
  refine callsIn_of_wpOf (g := 35) Try.func35 rfl trivial ?_
  simp only [Try.ntmps35, List.size_toArray, List.length_cons, List.length_nil, Nat.reduceAdd, Nat.reduceSub, Array.replicate_succ, Array.replicate_zero, List.push_toArray, List.append_toArray, List.nil_append, List.cons_append]
  obtain ⟨W0, hW0⟩ : ∃ W0, w.alloc (.cells #[.int .u8 (c : Int), .int .u8 (n : Int), .bool k, .slice A la ca, .slice B lb cb] 25) = W0 := ⟨_, rfl⟩
  have hz0 : W0.heap.size = w.heap.size + 1 := by rw [← hW0]; simp
  have hk0 : Keeps [] w W0 := by rw [← hW0]; exact (Keeps.refl [] w).alloc _
  have hr0 : W0.heap[w.heap.size]? = some (.cells #[.int .u8 (c : Int), .int .u8 (n : Int), .bool k, .slice A la ca, .slice B lb cb] 25 (0, 0)) := by rw [← hW0]; exact heap_new8 w _
  obtain ⟨⟨y0, y1, y2, y3, y4⟩, _⟩ := five_facts hr0
  obtain ⟨W1, hW1⟩ : ∃ W1, W0.alloc (.cells #[.int .u8 (c : Int), .int .u8 (n : Int), .bool k, .slice A la ca, .slice B lb cb] 25) = W1 := ⟨_, rfl⟩
  have hz1 : W1.heap.size = W0.heap.size + 1 := by rw [← hW1]; simp
  have hk1 : Keeps [] W0 W1 := by rw [← hW1]; exact (Keeps.refl [] W0).alloc _
  have hr1 : W1.heap[W0.heap.size]? = some (.cells #[.int .u8 (c : Int), .int .u8 (n : Int), .bool k, .slice A la ca, .slice B lb cb] 25 (0, 0)) := by rw [← hW1]; exact heap_new8 W0 _
  obtain ⟨W2, hW2⟩ : ∃ W2, W1.alloc (.cells #[.int .u8 (c : Int), .int .u8 (n : Int), .bool k, .slice A la ca, .slice B lb cb] 25) = W2 := ⟨_, rfl⟩
  have hk2 : Keeps [] W1 W2 := by rw [← hW2]; exact (Keeps.refl [] W1).alloc _
  have hr2 : W2.heap[W0.heap.size + 1]? = some (.cells #[.int .u8 (c : Int), .int .u8 (n : Int), .bool k, .slice A la ca, .slice B lb cb] 25 (0, 0)) := by rw [← hW2, ← hz1]; exact heap_new8 W1 _
  have HR1 := Lib.hid (blk_keep hr1 hk2 (by simp))
  have HR2 := Lib.hid hr2
  have HK2 := Lib.hid (hk0.trans' (hk1.trans' hk2))
  have HIM := Lib.hid (inmade_is c n k A la ca B lb cb c n k A la ca B lb cb W0)
  rw [hW1, hW2] at HIM
  clear hr1 hr2 hr0 hk0 hk1 hk2 hW1 hW2 hz1 hz0
  refine wpOf_seq (wpOf_of ?_)
  gi_wp2
  refine wpOf_seq (wpOf_of ?_)
  gi_wp2_with (refine ⟨trivial, ?_⟩; gi_at_call 43; refine (callsIn_wide.2 HIM.out).mono ?_; rintro e w' ⟨rfl, rfl⟩)
  refine wpOf_block ?_
  clear y0 y1 y2 y3 y4
  refine range_steps_w (X := BV × BV) (E := InE) (f := fun x => stands x.1) (res := allB (fun x => stands x.1) t t) Try.func35 rfl (fun _ _ => rfl) (instep_is (fun x => stands x.1) W0.heap.size (W0.heap.size + 1) t t ⟨c, n, k, A, la, ca, B, lb, cb⟩ ⟨c, n, k, A, la, ca, B, lb, cb⟩ W2 ?h2 ?h3 (BerAt.grow HK2.out t _ HT.out) (BerAt.grow HK2.out t _ HT.out) hn _ rfl)
    (fun x args W h => by obtain ⟨hx, hy, rfl, _⟩ := h; rfl)
    (fun x args A l o h hl => by
      obtain ⟨hx, hy, rfl, h1, h2⟩ := h
      obtain ⟨o', h3, h4⟩ := hl
      exact ⟨hx, hy, rfl, h1.map (cell_put h3 h4), h2.map (cell_put h3 h4)⟩)
    (fun _ => False) (fun ch X => ch = [{ v := .iface 28 (.int .i64 2), recovered := false }] ∧ Below W2.heap.size W2 X) (fun _ _ h _ => h) (fun ch A B h hb => ⟨h.1, h.2.trans hb⟩)
    (fun args X b => ∃ g hx, args[0]? = some (BH.val hx) ∧ X.heap[g]? = some (.cells #[.int .u8 (hx.c : Int), .int .u8 (hx.n : Int), .bool hx.k, .slice hx.A hx.la hx.ca, .slice hx.B hx.lb hx.cb] 25 (0, 0)) ∧ b = { tmps := #[.agg #[.int .u8 (c : Int), .int .u8 (n : Int), .bool k, .slice A la ca, .slice B lb cb], .pointer (some ⟨w.heap.size, 0, none⟩), .pointer (some ⟨g, 0, none⟩), .agg #[.int .u8 (c : Int), .int .u8 (n : Int), .bool k, .slice A la ca, .slice B lb cb], .agg #[.int .u8 (c : Int), .int .u8 (n : Int), .bool k, .slice A la ca, .slice B lb cb], .func (.func 63) #[] #[.pointer (some ⟨W0.heap.size, 0, none⟩), .pointer (some ⟨W0.heap.size + 1, 0, none⟩)], args.getD 0 undef, args.getD 1 undef, undef, undef, undef, undef], defers := [] })
    ?hA ?assign ?body ?hEK ?done ?stop ?pan
  case h2 =>
    intro q u hu
    rw [cell_of_blk HR1.out]
    simpa [BH.list] using hu
  case h3 =>
    intro q u hu
    rw [cell_of_blk HR2.out]
    simpa [BH.list] using hu
  case hA =>
    rintro args X b l o ⟨g, hx, h1, h2, rfl⟩ ⟨o', h3, h4⟩
    have hne : g ≠ l := by
      rintro rfl
      rw [h2] at h3
      cases h3
      cases h4
    exact ⟨g, hx, h1, (World.putObj_heap_other hne).trans h2, rfl⟩
  case assign =>
    rintro l x args X K ⟨hx, hy, rfl, h1, h2⟩ hK
    obtain ⟨cx, nx, kx, Ax, lax, cax, Bx, lbx, cbx⟩ := hx
    unfold BH.val
    gi_wp2
    exact hK _ _ ((Keeps.refl [] X).alloc _) ⟨X.heap.size, ⟨cx, nx, kx, Ax, lax, cax, Bx, lbx, cbx⟩, rfl, heap_new8 X _, rfl⟩
  case body =>
    rintro l x args X b hBX hzX ⟨hx, hy, rfl, h1, h2⟩ ⟨g, hx', h3, h4, rfl⟩
    have he : hx = hx' := by
      obtain ⟨_, _, _, _, _, _, _, _, _⟩ := hx
      obtain ⟨_, _, _, _, _, _, _, _, _⟩ := hx'
      simp only [BH.val] at h3
      simp at h3
      obtain ⟨e1, e2, e3, ⟨e4, e5, e6⟩, e7, e8, e9⟩ := h3
      have e1 := Int.ofNat_inj.1 e1
      have e2 := Int.ofNat_inj.1 e2
      rw [e1, e2, e3, e4, e5, e6, e7, e8, e9]
    subst he
    have HM := Lib.hid (maystand_is x.1 hx X h1)
    obtain ⟨cx, nx, kx, Ax, lax, cax, Bx, lbx, cbx⟩ := hx
    obtain ⟨⟨y0, y1, y2, y3, y4⟩, _⟩ := five_facts h4
    unfold BH.val at *
    have HB := Lib.hid hBX
    have hsz := hBX.size
    clear h1 h2 h3 h4 hBX
    have hpn : ∀ W, (Instr.panic (.iface 28 (.int .i64 2))).run Try.prog W = .halt (.panic (.iface 28 (.int .i64 2))) W := fun _ => rfl
    cases hs : stands x.1
    · rw [hs] at HM
      have HS := Lib.hid hs
      clear hs
      gi_wp2_with (refine ⟨trivial, ?_⟩; gi_at_call 52; refine (CallsIn.inRound l (callsIn_wide.2 HM.out)).mono ?_; rintro e X1 ⟨rfl, hb1⟩)
      exact ⟨rfl, HS.out, Over.of_keeps hb1, rfl, HB.out.trans (hb1.below hsz (by simp))⟩
    · rw [hs] at HM
      have HS := Lib.hid hs
      clear hs
      gi_wp2_with (refine ⟨trivial, ?_⟩; gi_at_call 52; refine (CallsIn.inRound l (callsIn_wide.2 HM.out)).mono ?_; rintro e X1 ⟨rfl, hb1⟩)
      exact ⟨HS.out, hb1⟩
  case hEK =>
    rintro x args X Y ⟨hx, hy, rfl, h1, h2⟩ hk
    exact ⟨hx, hy, rfl, BerAt.grow hk _ _ h1, BerAt.grow hk _ _ h2⟩
  case done =>
    intro X hr hB hm
    have hkp : Kept W2.heap.size X (X.putObj W2.heap.size (.deferred none)) := Kept.put (Nat.le_refl _) hm rfl
    show LeavesInM _ _ _ _ _ _ _ _ _
    refine ⟨by simp, .inl ⟨_, _, rfl, run_takeDeferred hm, ?_⟩⟩
    refine ⟨_, results_none rfl _ _ _, ?_⟩
    exact ⟨.inl ⟨hr, rfl⟩, HK2.out.trans' (Keeps.of_below (hB.trans (hkp.below hB.size)))⟩
  case stop => exact fun _ _ h => h.elim
  case pan =>
    rintro ch X hr ⟨rfl, hB⟩ hm
    have hkp : Kept W2.heap.size X (X.putObj W2.heap.size (.deferred none)) := Kept.put (Nat.le_refl _) hm rfl
    show LeavesInM _ _ _ _ _ _ _ _ _
    refine ⟨by simp, .inl ⟨_, _, rfl, run_takeDeferred hm, ?_⟩⟩
    exact ⟨.inr ⟨hr, rfl⟩, HK2.out.trans' (Keeps.of_below (hB.trans (hkp.below hB.size)))⟩

end Go.Proofs.Ytnengckecooohaa
/- ber: Encode. -/
namespace Go.Proofs.Ytnengckecooohaa
open Go.RowKit Go.Shelf
set_option linter.unusedVariables false
set_option linter.unusedSimpArgs false
set_option maxRecDepth 100000

theorem allL_stands (l : List BV) (h : ∀ t ∈ l, allB (fun x => stands x.1) t t = !badB t) : allL (fun x => stands x.1) l l = !badL l := by
  induction l with
  | nil => simp [allL, badL]
  | cons x r ih =>
    simp only [allL, badL]
    rw [h x (by simp), ih (fun t ht => h t (by simp [ht])), Bool.not_or]
theorem allB_stands : ∀ t : BV, allB (fun x => stands x.1) t t = !badB t := by
  intro t
  induction t using BV.ind with
  | h c n k b l ih =>
    rw [allB_mk]
    show (stands (.mk c n k b l) && allL (fun x => stands x.1) l l) = !(!stands (.mk c n k b l) || badL l)
    rw [allL_stands l ih, Bool.not_or, Bool.not_not]
theorem fineL_of (l : List BV) (hm : maxL l ≤ 1000000000) (hb : badL l = false) (h : ∀ t ∈ l, maxB t ≤ 1000000000 → badB t = false → fineB t = true) : fineL l = true := by
  induction l with
  | nil => simp [fineL]
  | cons x r ih =>
    simp only [badL, Bool.or_eq_false_iff] at hb
    have hm' : max (maxB x) (maxL r) ≤ 1000000000 := hm
    simp only [fineL, Bool.and_eq_true]
    exact ⟨h x (by simp) (by omega) hb.1, ih (by omega) hb.2 (fun t ht => h t (by simp [ht]))⟩
theorem fineB_of : ∀ t : BV, maxB t ≤ 1000000000 → badB t = false → fineB t = true := by
  intro t
  induction t using BV.ind with
  | h c n k b l ih =>
    intro hm hb
    have hm' : max b.length (maxL l) ≤ 1000000000 := hm
    have hb' : (!stands (.mk c n k b l) || badL l) = false := hb
    simp only [Bool.or_eq_false_iff, Bool.not_eq_false'] at hb'
    show (stands (.mk c n k b l) && decide (b.length ≤ 1000000000) && fineL l) = true
    rw [hb'.1, fineL_of l (by omega) hb'.2 ih]
    simp
    omega

/-- A cell that is set to what it holds. -/
theorem set_same {w : World} {a : Addr} {v : Value} (h : w.cell? a = some v) (p : Addr) (u : Value) (hp : w.cell? p = some u) : (w.setCell a v).cell? p = some u := by
  by_cases e : a = p
  · subst e
    rw [h] at hp
    injection hp with hp
    subst hp
    exact World.cell?_setCell_same _ _ _ h
  · rw [World.cell?_setCell_other _ _ _ _ e]
    exact hp
/-- A value's bytes, or why there are none. -/
def encB (t : BV) : Int ⊕ List UInt8 := if badB t then .inl 2 else if deepB 1 t then .inl 150 else match layB t with
  | none => .inl 3
  | some xs => .inr xs
/-- How Encode ends. -/
def EncQ (t : BV) (w : World) (e : Ending) (w' : World) : Prop :=
  ((∃ xs A d, encB t = .inr xs ∧ e = .returned (.tuple #[.slice A xs.length d, .int .i64 0]) ∧ BytesAt w' (.slice A xs.length d) xs) ∨ ∃ no, encB t = .inl no ∧ e = .returned (.tuple #[.slice none 0 0, .int .i64 no])) ∧ Keeps [] w w'

set_option maxHeartbeats 1000000 in
theorem encode_is (t : BV) (h : BH) (w : World) (ht : BerAt w t h) (hn : nodesB t ≤ 1000000000) (hm : maxB t ≤ 1000000000) : Calls Try.prog 12 #[h.val] w (EncQ t w) := by
  have hmf : ∀ (fn : Fn) (first cap : Array Value) (w : World), (Instr.makeFunc fn first cap).run Try.prog w = .ok (.func fn first cap) w := fun _ _ _ _ => rfl
  have HF := Lib.hid (fun X (hk : Keeps [] w X) => muststand_is t h X (BerAt.grow hk t h ht) hn)
  have HG := Lib.hid (fun X (hk : Keeps [] w X) => notdeep_is t h X (BerAt.grow hk t h ht))
  have HL := Lib.hid (fun X (hf : fineB t = true) (hk : Keeps [] w X) => laid_is t h X hf (BerAt.grow hk t h ht))
  have HM := Lib.hid hm
  obtain ⟨c, n, k, A, la, ca, B, lb, cb⟩ := h
  clear ht hn hm
  obtain ⟨W0, hW0⟩ : ∃ W0, (w.alloc (.cells #[.int .u8 (c : Int), .int .u8 (n : Int), .bool k, .slice A la ca, .slice B lb cb] 25)).alloc (.cells #[.int .i64 0] 28) = W0 := ⟨_, rfl⟩
  have hk0 : Keeps [] w W0 := by rw [← hW0]; exact ((Keeps.refl [] w).alloc _).alloc _
  have hr0 : W0.heap[w.heap.size]? = some (.cells #[.int .u8 (c : Int), .int .u8 (n : Int), .bool k, .slice A la ca, .slice B lb cb] 25 (0, 0)) := by rw [← hW0]; exact (Below.heap_alloc _ _ _ (by simp)).trans (heap_new8 w _)
  have hr1 : W0.heap[w.heap.size + 1]? = some (.cells #[.int .i64 0] 28 (0, 0)) := by
    rw [← hW0]
    have h9 := heap_new8 (w.alloc (.cells #[.int .u8 (c : Int), .int .u8 (n : Int), .bool k, .slice A la ca, .slice B lb cb] 25)) (.cells #[.int .i64 0] 28)
    rwa [World.size_alloc] at h9
  have HB0 := Lib.hid (fun X (hk : Keeps [] W0 X) => (five_facts (blk_keep hr0 hk (by simp))).1)
  have HB1 := Lib.hid (fun X (hk : Keeps [] W0 X) => blk_keep hr1 hk (by simp))
  have HK0 := Lib.hid hk0
  obtain ⟨y0, y1, y2, y3, y4⟩ := HB0.out W0 (Keeps.refl [] W0)
  have HEND : Hid (∀ X, Keeps [] W0 X → ∀ v, Keeps [] w (X.setCell ⟨w.heap.size + 1, 0, none⟩ v)) := fun X hk v => (HK0.out.trans' hk).setCell (.inr (Nat.le_succ _)) _
  clear hk0 hr0 hr1
  unfold BH.val at *
  go_enter_defers Try.func12, Try.ntmps12
  go_wp2_with fail
  refine (HF.out W0 HK0.out).mono ?_
  rintro e w1 ⟨⟨hs, rfl⟩ | ⟨hs, rfl⟩, hk1⟩
  · have HS := Lib.hid hs
    have HK1 := Lib.hid hk1
    obtain ⟨y0, y1, y2, y3, y4⟩ := HB0.out w1 hk1
    clear hs hk1
    go_wp2_with fail
    refine (HG.out w1 (HK0.out.trans' HK1.out)).mono ?_
    rintro e w2 ⟨⟨hd, rfl⟩ | ⟨hd, rfl⟩, hk2⟩
    · have HD := Lib.hid hd
      have HK2 := Lib.hid (HK1.out.trans' hk2)
      obtain ⟨y0, y1, y2, y3, y4⟩ := HB0.out w2 HK2.out
      have HBD : Hid (badB t = false) := by
        show _ = _
        have h9 := HS.out
        rw [allB_stands] at h9
        simpa using h9
      clear hd hk2
      go_wp2_with fail
      refine (HL.out w2 (fineB_of t HM.out HBD.out) (HK0.out.trans' HK2.out)).mono ?_
      rintro e w3 ⟨⟨xs, A2, d2, ⟨hl, rfl, hb⟩ | ⟨hl, rfl⟩⟩, hk3⟩
      · have HK3 := Lib.hid (HK2.out.trans' hk3)
        have hr := HB1.out w3 HK3.out
        have hc := cell_of_blk hr 0
        have hz := free_of_blk hr 0
        have hcs : (w3.setCell ⟨w.heap.size + 1, 0, none⟩ (.int .i64 0)).cell? ⟨w.heap.size + 1, 0, none⟩ = some (.int .i64 0) := World.cell?_setCell_same _ _ _ hc
        have hzs : (w3.setCell ⟨w.heap.size + 1, 0, none⟩ (.int .i64 0)).frozen? ⟨w.heap.size + 1, 0, none⟩ = false := by rw [World.frozen?_setCell]; exact hz
        have hcs2 : ((w3.setCell ⟨w.heap.size + 1, 0, none⟩ (.int .i64 0)).setCell ⟨w.heap.size + 1, 0, none⟩ (.int .i64 0)).cell? ⟨w.heap.size + 1, 0, none⟩ = some (.int .i64 0) := World.cell?_setCell_same _ _ _ hcs
        have HR : Hid (EncQ t w (.returned (.tuple #[.slice A2 xs.length d2, .int .i64 0])) ((w3.setCell ⟨w.heap.size + 1, 0, none⟩ (.int .i64 0)).setCell ⟨w.heap.size + 1, 0, none⟩ (.int .i64 0))) := by
          refine ⟨.inl ⟨xs, A2, d2, ?_, rfl, ?_⟩, (HEND.out w3 HK3.out _).setCell (.inr (Nat.le_succ _)) _⟩
          · unfold encB
            rw [if_neg (by rw [HBD.out]; simp), if_neg (by rw [HD.out]; simp), hl]
          · exact (hb.map (set_same hc)).map (set_same hcs)
        have HCS := Lib.hid hcs
        have HZS := Lib.hid hzs
        have HCS2 := Lib.hid hcs2
        clear hl hb hk3 hr hcs hzs hcs2
        generalize hxn : xs.length = xn at *
        go_wp2_with fail
        refine leaves_cons (f := 33) (args := #[.pointer (some ⟨w.heap.size + 1, 0, none⟩)]) (by simp) (by simp [go_sem]) ?_
        refine (encode_idle (w.heap.size + 1) 0 _ HCS.out HZS.out).mono ?_
        rintro e u' w'' ⟨rfl, rfl, rfl⟩
        have hcs2 := HCS2.out
        simp [Leaves, settle, results, Try.results12, go_sem, hcs2]
        exact HR.out
      · have HK3 := Lib.hid (HK2.out.trans' hk3)
        have hr := HB1.out w3 HK3.out
        have hc := cell_of_blk hr 0
        have hz := free_of_blk hr 0
        have HR : Hid (EncQ t w (.returned (.tuple #[.slice none 0 0, .int .i64 3])) (w3.setCell ⟨w.heap.size + 1, 0, none⟩ (.int .i64 3))) := by
          refine ⟨.inr ⟨3, ?_, rfl⟩, HEND.out w3 HK3.out _⟩
          unfold encB
          rw [if_neg (by rw [HBD.out]; simp), if_neg (by rw [HD.out]; simp), hl]
        clear hl hk3 hr
        go_wp2_with fail
        refine leaves_cons (f := 33) (args := #[.pointer (some ⟨w.heap.size + 1, 0, none⟩)]) (by simp) (by simp [go_sem]) ?_
        refine (encode_panicking (w.heap.size + 1) 0 3 [] w3 hc hz).mono ?_
        rintro e u' w'' ⟨rfl, rfl, rfl⟩
        have hcs : (w3.setCell ⟨w.heap.size + 1, 0, none⟩ (.int .i64 3)).cell? ⟨w.heap.size + 1, 0, none⟩ = some (.int .i64 3) := World.cell?_setCell_same _ _ _ hc
        simp [Leaves, settle, results, Try.results12, go_sem, hcs]
        exact HR.out
    · have HK2 := Lib.hid (HK1.out.trans' hk2)
      have hr := HB1.out w2 HK2.out
      have hc := cell_of_blk hr 0
      have hz := free_of_blk hr 0
      have HR : Hid (EncQ t w (.returned (.tuple #[.slice none 0 0, .int .i64 150])) (w2.setCell ⟨w.heap.size + 1, 0, none⟩ (.int .i64 150))) := by
        refine ⟨.inr ⟨150, ?_, rfl⟩, HEND.out w2 HK2.out _⟩
        have h9 := HS.out
        rw [allB_stands] at h9
        unfold encB
        rw [if_neg (by simpa using h9), if_pos hd]
      clear hd hk2 hr
      go_wp2_with fail
      refine leaves_cons (f := 33) (args := #[.pointer (some ⟨w.heap.size + 1, 0, none⟩)]) (by simp) (by simp [go_sem]) ?_
      refine (encode_panicking (w.heap.size + 1) 0 150 [] w2 hc hz).mono ?_
      rintro e u' w'' ⟨rfl, rfl, rfl⟩
      have hcs : (w2.setCell ⟨w.heap.size + 1, 0, none⟩ (.int .i64 150)).cell? ⟨w.heap.size + 1, 0, none⟩ = some (.int .i64 150) := World.cell?_setCell_same _ _ _ hc
      simp [Leaves, settle, results, Try.results12, go_sem, hcs]
      exact HR.out
  · have hc := cell_of_blk (HB1.out w1 hk1) 0
    have hz := free_of_blk (HB1.out w1 hk1) 0
    have HR : Hid (EncQ t w (.returned (.tuple #[.slice none 0 0, .int .i64 2])) (w1.setCell ⟨w.heap.size + 1, 0, none⟩ (.int .i64 2))) := by
      refine ⟨.inr ⟨2, ?_, rfl⟩, HEND.out w1 hk1 _⟩
      rw [allB_stands] at hs
      unfold encB
      rw [if_pos (by simpa using hs)]
    go_wp2_with fail
    refine leaves_cons (f := 33) (args := #[.pointer (some ⟨w.heap.size + 1, 0, none⟩)]) (by simp) (by simp [go_sem]) ?_
    refine (encode_panicking (w.heap.size + 1) 0 2 [] w1 hc hz).mono ?_
    rintro e u' w'' ⟨rfl, rfl, rfl⟩
    have hcs : (w1.setCell ⟨w.heap.size + 1, 0, none⟩ (.int .i64 2)).cell? ⟨w.heap.size + 1, 0, none⟩ = some (.int .i64 2) := World.cell?_setCell_same _ _ _ hc
    simp [Leaves, settle, results, Try.results12, go_sem, hcs]
    exact HR.out

end Go.Proofs.Ytnengckecooohaa
