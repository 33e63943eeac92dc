/- asks: the frames of some bytes are told as the document says. -/
import Derived.Test.YtkcoiplhopdnlaaQ1
import Derived.Test.YtkcoiplhopdnlaaF15
import Derived.Test.YtkcoiplhopdnlaaG4
namespace Go.Proofs.Ytkcoiplhopdnlaa
open Go.RowKit Go.Shelf
set_option linter.unusedVariables false
attribute [local go_sem] Oper.semAt_some

theorem rfirst_is (A : Option Addr) (n c : Nat) (xs : List UInt8) (w : World) (hn : xs.length = n) (hb : BytesAt w (.slice A n c) xs) : Calls Try.prog 22 #[.slice A n c] w fun e w' => ∃ B d, e = .returned (.tuple #[.slice B (fstR xs).length d, .int .i64 (fstN xs : Nat), .bool (framed xs)]) ∧ BytesAt w' (.slice B (fstR xs).length d) (fstR xs) ∧ Keeps [] w w' := by
  cases hf : framed xs
  · refine (rfirst_none A n c xs w hn hb hf).mono ?_
    rintro e w' ⟨rfl, hk⟩
    have e1 : fstR xs = [] := by simp [fstR, hf]
    have e2 : fstN xs = 0 := by simp [fstN, hf]
    rw [e1, e2]
    exact ⟨none, 0, rfl, ⟨none, 0, rfl, Nat.le_refl _, Nat.zero_le _, fun h => absurd h (by simp)⟩, hk⟩
  · refine (rfirst_some A n c xs w hn hb hf).mono ?_
    rintro e w' ⟨B, d, rfl, h1, hk⟩
    have hl := recOf_len hf
    have e1 : fstR xs = recOf xs := by simp [fstR, hf]
    have e2 : fstN xs = (recOf xs).length + 12 := by simp [fstN, hf]
    rw [e1, e2]
    have h2 := h1 w' (hb.grow hk)
    rw [← hl.1] at h2
    refine ⟨B, d, ?_, h2, hk⟩
    rw [← hl.1, show num4 xs + 11 = (recOf xs).length + 12 by omega]

theorem results_cell1 {P : Program} {fn : Func} {p : Tmp} {t1 : TypeId} (h : fn.results = #[.cell p t1]) (tmps : Array Value) (w : World) {a : Nat} {u : Value}
    (ha : tmps.getD p undef = .pointer (some ⟨a, 0, none⟩)) (h1 : ∀ w, w.cell? ⟨a, 0, none⟩ = some u → (loadVar t1 ⟨a, 0, none⟩).run P w = .ok u w) (ca : w.cell? ⟨a, 0, none⟩ = some u) : (results fn tmps).run P w = .ok u w := by
  have ha' : tmps[p]?.getD undef = .pointer (some ⟨a, 0, none⟩) := by simpa using ha
  simp [results, h, ha', asAddr, h1 w ca]

theorem own_kept {m : Nat} {a b : World} {base k n : Nat} {e : TypeId} {v : Value} {xs : List Value} (h : a.ownsRow base e k v n xs) (hk : Kept m a b) : b.ownsRow base e k v n xs := by
  obtain ⟨h1, h2⟩ := h
  refine ⟨h1, ?_⟩
  rcases h2 with h2 | ⟨g, cap, cur, rfl, hg, hh, r⟩
  · exact .inl h2
  · exact .inr ⟨g, cap, cur, rfl, hg, hk.block _ _ hh (.inr rfl), r⟩

/-- What the document's All has told; all of it lies below m. -/
structure RB (w : World) (m : Nat) (X : World) (xs : List UInt8) (lv pv : Value) : Prop where
  l : ∃ vals : List Value, X.ownsRow w.heap.size 27 1 lv (recs xs).length vals ∧ ∀ (i : Nat) (v : Value), vals[i]? = some v → ∃ r, (recs xs)[i]? = some r ∧ ∃ B d, v = .slice B r.length d ∧ BytesAt X v r ∧ (0 < r.length → ∀ b, (Value.slice B r.length d).ownBlock = some b → b < m)
  p : X.ownsRow w.heap.size 3 1 pv (recs xs).length (plcs xs (recs xs).length)
  ll : ∀ b, lv.ownBlock = some b → b < m
  pl : ∀ b, pv.ownBlock = some b → b < m

theorem BytesAt.none {X Y : World} {v : Value} {r : List UInt8} (h : BytesAt X v r) (hr : r.length = 0) : BytesAt Y v r := by
  obtain ⟨A, c, rfl, h1, h2, _⟩ := h
  exact ⟨A, c, rfl, h1, h2, fun h => by omega⟩
theorem RB.keep {w X Y : World} {m : Nat} {xs : List UInt8} {lv pv : Value} {bs : List Nat} (h : RB w m X xs lv pv) (hk : Keeps bs X Y) (hb : ∀ b ∈ bs, m ≤ b) : RB w m Y xs lv pv := by
  obtain ⟨⟨vals, h1, h2⟩, h3, h4, h5⟩ := h
  refine ⟨⟨vals, own_keep h1 hk (fun b hx hm => by have := h4 b hx; have := hb b hm; omega), fun i v hv => ?_⟩, own_keep h3 hk (fun b hx hm => by have := h5 b hx; have := hb b hm; omega), h4, h5⟩
  obtain ⟨r, g1, B, d, rfl, g3, g4⟩ := h2 i v hv
  refine ⟨r, g1, B, d, rfl, ?_, g4⟩
  rcases Nat.eq_zero_or_pos r.length with h0 | h0
  · exact g3.none h0
  · exact g3.keep hk (fun b hx hm => by have := g4 h0 b hx; have := hb b hm; omega)
theorem RB.keeps {w X Y : World} {m : Nat} {xs : List UInt8} {lv pv : Value} (h : RB w m X xs lv pv) (hk : Keeps [] X Y) : RB w m Y xs lv pv := h.keep hk (by simp)
theorem RB.kept {n m : Nat} {w X Y : World} {xs : List UInt8} {lv pv : Value} (h : RB w m X xs lv pv) (hk : Kept n X Y) : RB w m Y xs lv pv := by
  obtain ⟨⟨vals, h1, h2⟩, h3, h4, h5⟩ := h
  refine ⟨⟨vals, own_kept h1 hk, fun i v hv => ?_⟩, own_kept h3 hk, h4, h5⟩
  obtain ⟨r, g1, B, d, rfl, g3, g4⟩ := h2 i v hv
  exact ⟨r, g1, B, d, rfl, BytesAt.under _ _ _ g3 hk, g4⟩
/-- The k'th of both. -/
theorem RB.get {w X : World} {m : Nat} {xs : List UInt8} {lv pv : Value} (h : RB w m X xs lv pv) {k : Nat} {r : List UInt8} (hr : (recs xs)[k]? = some r) : ∃ g1 c1 g2 c2 B d, lv = .slice (some ⟨g1, 0, none⟩) (recs xs).length c1 ∧ pv = .slice (some ⟨g2, 0, none⟩) (recs xs).length c2 ∧ X.cell? ⟨g1, k, none⟩ = some (.slice B r.length d) ∧ BytesAt X (.slice B r.length d) r ∧ X.cell? ⟨g2, k, none⟩ = some (.int .i64 (plc xs k : Nat)) := by
  obtain ⟨⟨vals, h1, h2⟩, h3, _, _⟩ := h
  obtain ⟨hk, hrk⟩ := List.getElem?_eq_some_iff.1 hr
  obtain ⟨g1, cap1, cur1, rfl, _⟩ : ∃ g cap cur, lv = .slice (some ⟨g, 0, none⟩) (recs xs).length cap ∧ cur = cur := by
    rcases h1.2 with ⟨_, h0⟩ | ⟨g, cap, cur, hv, _⟩
    · omega
    · exact ⟨g, cap, 0, hv, rfl⟩
  obtain ⟨g2, cap2, cur2, rfl, _⟩ : ∃ g cap cur, pv = .slice (some ⟨g, 0, none⟩) (recs xs).length cap ∧ cur = cur := by
    rcases h3.2 with ⟨_, h0⟩ | ⟨g, cap, cur, hv, _⟩
    · omega
    · exact ⟨g, cap, 0, hv, rfl⟩
  have hvl : vals.length = (recs xs).length := by have := h1.1; omega
  have hv : vals[k]? = some (vals[k]'(by omega)) := List.getElem?_eq_getElem _
  obtain ⟨r', g3, B, d, g4, g5, _⟩ := h2 k _ hv
  rw [hr] at g3
  injection g3 with g3
  subst g3
  have k1 := h1.cells (g := g1) rfl k _ hv
  have k2 := h3.cells (g := g2) rfl k (.int .i64 (plc xs k : Nat)) (by simp [plcs, hk])
  rw [add_at, Nat.zero_add] at k1 k2
  rw [g4] at k1 g5
  exact ⟨g1, cap1, g2, cap2, B, d, rfl, rfl, k1, g5, k2⟩

end Go.Proofs.Ytkcoiplhopdnlaa
