/- FramesLeft, walked: what its loops leave. -/
import Derived.Test.YtaifchikjnnppaaQ11
import Derived.Test.YtaifchikjnnppaaQ3
namespace Go.Proofs.Ytaifchikjnnppaa
open Go.RowKit Go.Shelf
set_option linter.unusedVariables false
attribute [local go_sem] Oper.semAt_some

theorem own_anys {w : World} {base n c : Nat} {A : Option Addr} {xs : List UInt8} (h : w.ownsRow base 5 1 (.slice A n c) n (xs.map bv)) (hn : xs.length = n) (h0 : 0 < n) : ∃ g, A = some ⟨g, 0, none⟩ ∧ base ≤ g ∧ Anys w w g n ∧ n ≤ c ∧ c ≤ 9223372036854775807 := by
  have hc := cap_of_own h
  have hs := Src.of_own h
  rcases h.2 with ⟨h1, h2⟩ | ⟨g, cap, cur, h1, h2, h3, h4⟩
  · omega
  · injection h1 with e1 e2 e3
    subst e1
    refine ⟨g, rfl, h2, ⟨fun i hi => ⟨(xs[i]'(by omega)).toNat, (xs[i]'(by omega)).toNat_lt, ?_⟩, fun i hi => ?_, Keeps.refl _ _, ?_⟩, hc⟩
    · have := hs.2 _ rfl i (bv (xs[i]'(by omega))) (by simp [List.getElem?_eq_getElem (show i < xs.length by omega)])
      rw [add_at, Nat.zero_add] at this
      exact this
    · simp [World.frozen?, h3]
    · exact lt_of_heap h3

/-- The boxes of the two rounds, and the marks that the ranges before left. -/
structure LeftI (w : World) (A : Option Addr) (len c : Nat) (nn : Int) (g9 : Nat) (t : Int) (ms : List Nat) (g3 : Nat) (B3 : Option Addr) (N d3 : Nat) (xs : List UInt8) (X : World) : Prop where
  t : Boxed X g9 3 (.int .i64 t)
  l : Boxed X w.heap.size 25 (.slice A len c)
  n : Boxed X (w.heap.size + 1) 3 (.int .i64 nn)
  r : Boxed X (w.heap.size + 1 + 1) 4 (.bool false)
  bel : Below w.heap.size w X
  marks : ∀ d ∈ ms, X.heap[d]? = some (.deferred (some []))
  data : RestD g3 B3 N d3 xs X

theorem LeftI.under {w : World} {A : Option Addr} {len c : Nat} {nn : Int} {g9 : Nat} {t : Int} {ms : List Nat} {g3 : Nat} {B3 : Option Addr} {N d3 : Nat} {xs : List UInt8} {X Y : World} {m : Nat} (h : LeftI w A len c nn g9 t ms g3 B3 N d3 xs X) (hm : ∀ d ∈ ms, d < m) (hw : w.heap.size ≤ m) (hb : Kept m X Y) : LeftI w A len c nn g9 t ms g3 B3 N d3 xs Y :=
  ⟨boxed_under X Y h.t hb, boxed_under X Y h.l hb, boxed_under X Y h.n hb, boxed_under X Y h.r hb, h.bel.trans ((hb.mono hw).below h.bel.size), fun d hd => hb.block _ _ (h.marks d hd) (.inl (hm d hd)), RestD.under _ X Y h.data hb⟩

/-- Worlds that only grew. -/
theorem LeftI.keeps {w : World} {A : Option Addr} {len c : Nat} {nn : Int} {g9 : Nat} {t : Int} {ms : List Nat} {g3 : Nat} {B3 : Option Addr} {N d3 : Nat} {xs : List UInt8} {X Y : World} (h : LeftI w A len c nn g9 t ms g3 B3 N d3 xs X) (hk : Keeps [] X Y) : LeftI w A len c nn g9 t ms g3 B3 N d3 xs Y :=
  ⟨boxed_keeps h.t hk, boxed_keeps h.l hk, boxed_keeps h.n hk, boxed_keeps h.r hk, h.bel.trans (hk.below h.bel.size (by simp)), fun d hd => (hk.block d (lt_of_heap (h.marks d hd)) (by simp)).trans (h.marks d hd), (RestD.under 0).keeps h.data hk⟩

/-- A box apart, written. -/
theorem LeftI.other {w : World} {A : Option Addr} {len c : Nat} {nn : Int} {g9 : Nat} {t : Int} {ms : List Nat} {g3 : Nat} {B3 : Option Addr} {N d3 : Nat} {xs : List UInt8} {X : World} {g : Nat} {u : Value} (h : LeftI w A len c nn g9 t ms g3 B3 N d3 xs X) (h9 : g9 < g) (hw : w.heap.size + 2 < g) (hm : ∀ d ∈ ms, d ≠ g) (h3 : g3 < g) (hB : 0 < xs.length → ∀ b, (Value.slice B3 N d3).ownBlock = some b → b < g) : LeftI w A len c nn g9 t ms g3 B3 N d3 xs (X.setCell ⟨g, 0, none⟩ u) := by
  have kset : Keeps [g] X (X.setCell ⟨g, 0, none⟩ u) := (Keeps.refl _ _).setCell (.inl (by simp)) _
  refine ⟨h.t.other (by omega) _, h.l.other (by omega) _, h.n.other (by omega) _, h.r.other (by omega) _, h.bel.trans (below_set (n := w.heap.size) (b := g) X u (by omega)), fun d hd => (kset.block d (lt_of_heap (h.marks d hd)) (by simpa using hm d hd)).trans (h.marks d hd), ⟨?_, ?_⟩⟩
  · exact (World.cell?_setCell_far _ ⟨g, 0, none⟩ ⟨g3, 0, none⟩ _ (by show g ≠ g3; omega)).trans h.data.1
  · rcases Nat.eq_zero_or_pos xs.length with h0 | h0
    · exact h.data.2.none h0
    · exact h.data.2.keep kset (fun b hb hmm => by have := hB h0 b hb; simp at hmm; omega)

/-- The round's own box, written. -/
theorem LeftI.turn {w : World} {A : Option Addr} {len c : Nat} {nn : Int} {g9 : Nat} {t : Int} {ms : List Nat} {g3 : Nat} {B3 : Option Addr} {N d3 : Nat} {xs : List UInt8} {X : World} {t' : Int} (h : LeftI w A len c nn g9 t ms g3 B3 N d3 xs X) (hw : w.heap.size + 2 < g9) (hm : ∀ d ∈ ms, d ≠ g9) (h3 : g3 < g9) (hB : 0 < xs.length → ∀ b, (Value.slice B3 N d3).ownBlock = some b → b < g9) : LeftI w A len c nn g9 t' ms g3 B3 N d3 xs (X.setCell ⟨g9, 0, none⟩ (.int .i64 t')) := by
  have kset : Keeps [g9] X (X.setCell ⟨g9, 0, none⟩ (.int .i64 t')) := (Keeps.refl _ _).setCell (.inl (by simp)) _
  refine ⟨h.t.set _, h.l.other (by omega) _, h.n.other (by omega) _, h.r.other (by omega) _, h.bel.trans (below_set (n := w.heap.size) (b := g9) X _ (by omega)), fun d hd => (kset.block d (lt_of_heap (h.marks d hd)) (by simpa using hm d hd)).trans (h.marks d hd), ⟨?_, ?_⟩⟩
  · exact (World.cell?_setCell_far _ ⟨g9, 0, none⟩ ⟨g3, 0, none⟩ _ (by show g9 ≠ g3; omega)).trans h.data.1
  · rcases Nat.eq_zero_or_pos xs.length with h0 | h0
    · exact h.data.2.none h0
    · exact h.data.2.keep kset (fun b hb hmm => by have := hB h0 b hb; simp at hmm; omega)

/-- The next round: a new box, and one mark more. -/
theorem LeftI.next {w : World} {A : Option Addr} {len c : Nat} {nn : Int} {g9 m : Nat} {t : Int} {ms : List Nat} {g3 : Nat} {B3 : Option Addr} {N d3 : Nat} {xs : List UInt8} {X : World} (h : LeftI w A len c nn g9 t ms g3 B3 N d3 xs X) (hm : X.heap[m]? = some (.deferred (some []))) (t' : Int) : LeftI w A len c nn X.heap.size t' (m :: ms) g3 B3 N d3 xs (X.alloc (.cells #[.int .i64 t'] 3)) := by
  have hk : Keeps [] X (X.alloc (.cells #[.int .i64 t'] 3)) := (Keeps.refl [] X).alloc _
  have h1 := h.keeps hk
  have hms : ∀ d ∈ m :: ms, X.heap[d]? = some (.deferred (some [])) := fun d hd => by
    rcases List.mem_cons.1 hd with rfl | hd
    · exact hm
    · exact h.marks d hd
  exact ⟨Boxed.new X _ _, h1.l, h1.n, h1.r, h1.bel, fun d hd => (hk.block d (lt_of_heap (hms d hd)) (by simp)).trans (hms d hd), h1.data⟩

end Go.Proofs.Ytaifchikjnnppaa
