/- Texts of one proof, laid together: X4 X5. -/
import Derived.Test.YtfjlcfbomlfpfaaDoorM89
/- entry: the document's with; walked. -/
namespace Go.Proofs.YtfjlcfbomlfpfaaDoor
open Go.RowKit Go.Shelf
set_option linter.unusedVariables false
set_option linter.unusedSimpArgs false
set_option maxRecDepth 100000

theorem less_is : ∀ a b : Txt, Op.bytesLess a b = decide (a < b)
  | [], [] => by rw [Op.bytesLess, decide_eq_false (tx_irr _)]
  | a :: r, [] => by rw [Op.bytesLess, decide_eq_false (List.not_lt.2 (tx_le (List.nil_lt_cons a r)))]
  | [], b :: s => by rw [Op.bytesLess, decide_eq_true (List.nil_lt_cons b s)]
  | a :: r, b :: s => by
    rw [Op.bytesLess, less_is r s, Bool.eq_iff_iff]
    simp [List.cons_lt_cons_iff]
theorem tx_less (s t : Txt) (r : Bool) (h : decide (s < t) = r) : Op.bytesLess (⟨s.toArray⟩ : ByteArray).toList (⟨t.toArray⟩ : ByteArray).toList = r := by
  rw [← h, ByteArray.toList_eq, ByteArray.toList_eq]
  exact less_is s t
theorem run_geq {P : Program} (t : TypeId) (x s : Txt) (r : Bool) (h : decide (x < s) = r) (W : World) : (binOp .geq t (.string ⟨x.toArray⟩) (.string ⟨s.toArray⟩)).run P W = .ok (.bool (!r)) W := by
  have h1 := tx_less x s r h
  simp only [binOp, Op.stringOp, h1]
  rfl
theorem le_not (s t : Txt) : decide (s ≤ t) = !decide (t < s) := by
  by_cases h : s ≤ t
  · rw [decide_eq_true h, decide_eq_false (List.not_lt.2 h)]; rfl
  · rw [decide_eq_false h, decide_eq_true (List.not_le.1 h)]; rfl
/-- A row of texts under way. -/
structure OutS (w wr : World) (A : Option Addr) (m c : Nat) (xs : List Txt) : Prop where
  row : wr.ownsRow w.heap.size 9 1 (.slice A m c) m (xs.map tv)
  len : xs.length = m
  txt : ∀ s ∈ xs, s.length ≤ 9223372036854775807
  keep : Keeps [] w wr
theorem OutS.nil (w : World) : OutS w w none 0 0 [] := ⟨World.ownsRow_nil _ _ _ _, rfl, by simp, Keeps.refl _ _⟩
theorem OutS.on {w wr W : World} {A : Option Addr} {m c : Nat} {xs : List Txt} (h : OutS w wr A m c xs) (hk : Keeps [] wr W) : OutS w W A m c xs :=
  ⟨own_keep h.row hk (by simp), h.len, h.txt, h.keep.trans' hk⟩
theorem OutS.snoc {w wr W w6 : World} {A A6 : Option Addr} {m c c6 : Nat} {xs : List Txt} {s : Txt} (h : OutS w wr A m c xs) (hk : Keeps [] wr W) (hg : W.grownBy w6 (.slice A m c : Value).ownBlock) (ho : w6.ownsRow w.heap.size 9 1 (.slice A6 (m + 1) c6) (m + 1) (xs.map tv ++ [tv s])) (hs : s.length ≤ 9223372036854775807) : OutS w w6 A6 (m + 1) c6 (xs ++ [s]) :=
  ⟨by rw [List.map_append]; exact ho, by rw [List.length_append, h.len]; rfl, fun x hx => by
    rcases List.mem_append.1 hx with hx | hx
    · exact h.txt x hx
    · rw [List.mem_singleton.1 hx]; exact hs, keeps_own7 (own_keep h.row hk (by simp)) (h.keep.trans' hk) hg⟩
theorem OutS.strs {w wr : World} {A : Option Addr} {m c : Nat} {xs : List Txt} (h : OutS w wr A m c xs) : StrsIn wr A m xs := StrsIn.of_own h.row h.len h.txt
theorem preW_take {l : List Txt} {j : Nat} {x : Txt} (s : Txt) (h : l[j]? = some x) : preW (l.take (j + 1)) s = stepW s (preW (l.take j) s) x := by
  rw [List.take_add_one, h]
  exact preW_snoc _ _ _
/-- What a call answers that tells texts: in memory that may be its own. -/
def StrQ (xs : List Txt) (w : World) (e : Ending) (w' : World) : Prop := ∃ A c, e = .returned (.slice A xs.length c) ∧ StrsIn w' A xs.length xs ∧ xs.length ≤ c ∧ c ≤ 9223372036854775807 ∧ Keeps [] w w'
theorem OutS.done {w wr : World} {A : Option Addr} {m c : Nat} {xs : List Txt} (h : OutS w wr A m c xs) : StrQ xs w (.returned (.slice A m c)) wr := by
  obtain ⟨h1, h2⟩ := own_caps h.row
  refine ⟨A, c, by rw [h.len], ?_, by rw [h.len]; exact h1, h2, h.keep⟩
  rw [h.len]
  exact h.strs
end Go.Proofs.YtfjlcfbomlfpfaaDoor
/- entry: the document's set; walked. -/
namespace Go.Proofs.YtfjlcfbomlfpfaaDoor
open Go.RowKit Go.Shelf
set_option linter.unusedVariables false
set_option linter.unusedSimpArgs false
set_option maxRecDepth 100000

/-- An entry under way. -/
structure SetS (w wr : World) (A : Option Addr) (j c : Nat) (L : List At7) (e : List Att) : Prop where
  says : ents L = e
  len : L.length = j
  row : wr.ownsRow w.heap.size 27 2 (.slice A j c) j (atCells L)
  fits : ∀ a ∈ L, a.fits w
  keep : Keeps [] w wr
theorem SetS.nil (w : World) : SetS w w none 0 0 [] [] := ⟨rfl, rfl, World.ownsRow_nil _ _ _ _, by simp, Keeps.refl _ _⟩
theorem SetS.snoc {w wr W w6 : World} {A A6 : Option Addr} {m c c6 : Nat} {L : List At7} {e : List Att} (h : SetS w wr A m c L e) (a : At7) (hk : Keeps [] wr W) (hg : W.grownBy w6 (.slice A m c : Value).ownBlock) (ho : w6.ownsRow w.heap.size 27 2 (.slice A6 (m + 1) c6) (m + 1) (atCells L ++ [tv a.name, a.val])) (hs : a.fits w) : SetS w w6 A6 (m + 1) c6 (L ++ [a]) (e ++ [a.att]) :=
  ⟨by rw [← h.says]; simp [ents], by rw [List.length_append, h.len]; rfl, by rw [atCells_snoc]; exact ho, fun x hx => by
    rcases List.mem_append.1 hx with hx | hx
    · exact h.fits x hx
    · rw [List.mem_singleton.1 hx]; exact hs, keeps_own7 (own_keep h.row hk (by simp)) (h.keep.trans' hk) hg⟩
/-- What a call answers that tells an entry: it, and no error. -/
def EnsQ (E : List Att) (w : World) (e : Ending) (w' : World) : Prop := ∃ A n c, e = .returned (.slice A n c) ∧ EntQ E w A n c w' ∧ Keeps [] w w'
theorem SetS.done {w wr : World} {A : Option Addr} {m c : Nat} {L : List At7} {e : List Att} (h : SetS w wr A m c L e) : EnsQ e w (.returned (.slice A m c)) wr := by
  obtain ⟨h1, h2⟩ := own_caps h.row
  exact ⟨A, m, c, rfl, ⟨L, h.says, EntIn.of_own h.row h.len (fun a ha => (h.fits a ha).grow h.keep), h1, h2, fun a ha => (h.fits a ha).2.2.2.1⟩, h.keep⟩
theorem preS_take {e : List Att} {j : Nat} {a : Att} (n : Txt) (l : List Txt) (h : e[j]? = some a) : preS (e.take (j + 1)) n l = stepS n l (preS (e.take j) n l) a := by
  rw [List.take_add_one, h]
  exact preS_snoc _ _ _ _
end Go.Proofs.YtfjlcfbomlfpfaaDoor
