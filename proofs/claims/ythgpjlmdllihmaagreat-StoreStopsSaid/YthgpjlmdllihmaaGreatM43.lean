/- Texts of one proof, laid together: U57. -/
import Derived.Test.YthgpjlmdllihmaaGreatM40
/- Acts and changes in rows of their own. -/
namespace Go.Proofs.YthgpjlmdllihmaaGreat
open Go.RowKit Go.Shelf Go.Maps
set_option linter.unusedVariables false
set_option linter.unusedSimpArgs false
set_option maxRecDepth 100000

theorem act_info : (Tryz.prog.info? 27).map (fun i => (i.zero, i.size, i.bytes)) = some (some (.agg #[.int .i64 0, .int .i64 0, .slice none 0 0, .int .i64 0, .int .i64 0]), 5, 56) := by kernel_rfl
theorem change_info : (Tryz.prog.info? 50).map (fun i => (i.zero, i.size, i.bytes)) = some (some (.agg #[.string ⟨#[]⟩, .string ⟨#[]⟩, .bool false]), 3, 40) := by kernel_rfl

def actCells (l : List Act4) : List Value := l.flatMap fun x => [.int .i64 x.kind, .int .i64 x.n, .slice x.A x.l.length x.c, .int .i64 x.keep, .int .i64 x.torn]
def chgCells (l : List Chg) : List Value := l.flatMap fun x => [sv x.k, sv x.v, .bool x.g]

theorem actCells_at : ∀ (l : List Act4) (i : Nat) (x : Act4), l[i]? = some x → (actCells l)[i * 5]? = some (.int .i64 x.kind) ∧ (actCells l)[i * 5 + 1]? = some (.int .i64 x.n) ∧ (actCells l)[i * 5 + 2]? = some (.slice x.A x.l.length x.c) ∧ (actCells l)[i * 5 + 3]? = some (.int .i64 x.keep) ∧ (actCells l)[i * 5 + 4]? = some (.int .i64 x.torn)
  | [], i, x, h => by simp at h
  | y :: r, 0, x, h => by simp at h; subst h; exact ⟨rfl, rfl, rfl, rfl, rfl⟩
  | y :: r, i + 1, x, h => by
    have := actCells_at r i x (by simpa using h)
    have e : actCells (y :: r) = .int .i64 y.kind :: .int .i64 y.n :: .slice y.A y.l.length y.c :: .int .i64 y.keep :: .int .i64 y.torn :: actCells r := rfl
    rw [e, show (i + 1) * 5 = i * 5 + 1 + 1 + 1 + 1 + 1 by omega]
    exact this
theorem chgCells_at : ∀ (l : List Chg) (i : Nat) (x : Chg), l[i]? = some x → (chgCells l)[i * 3]? = some (sv x.k) ∧ (chgCells l)[i * 3 + 1]? = some (sv x.v) ∧ (chgCells l)[i * 3 + 2]? = some (.bool x.g)
  | [], i, x, h => by simp at h
  | y :: r, 0, x, h => by simp at h; subst h; exact ⟨rfl, rfl, rfl⟩
  | y :: r, i + 1, x, h => by
    have := chgCells_at r i x (by simpa using h)
    have e : chgCells (y :: r) = sv y.k :: sv y.v :: .bool y.g :: chgCells r := rfl
    rw [e, show (i + 1) * 3 = i * 3 + 1 + 1 + 1 by omega]
    exact this
theorem actCells_len (l : List Act4) : (actCells l).length = l.length * 5 := by
  induction l with
  | nil => rfl
  | cons p T ih => simp only [actCells, List.flatMap_cons, List.length_append, List.length_cons, List.length_nil] at ih ⊢; omega
theorem chgCells_len (l : List Chg) : (chgCells l).length = l.length * 3 := by
  induction l with
  | nil => rfl
  | cons p T ih => simp only [chgCells, List.flatMap_cons, List.length_append, List.length_cons, List.length_nil] at ih ⊢; omega
theorem actCells_app (l m : List Act4) : actCells (l ++ m) = actCells l ++ actCells m := by simp [actCells]
theorem chgCells_app (l m : List Chg) : chgCells (l ++ m) = chgCells l ++ chgCells m := by simp [chgCells]

theorem lt_of_get {α : Type} {l : List α} {i : Nat} {x : α} (h : l[i]? = some x) : i < l.length := by
  rcases Nat.lt_or_ge i l.length with h1 | h1
  · exact h1
  · rw [List.getElem?_eq_none h1] at h; cases h

theorem chgs_of_own {w : World} {base : Nat} {A : Option Addr} {c n : Nat} {l : List Chg} (h : w.ownsRow base 50 3 (.slice A n c) n (chgCells l)) (hl : l.length = n) (hb : ∀ x ∈ l, x.k.length ≤ 9223372036854775807 ∧ x.v.length ≤ 9223372036854775807) : ChgsAt w A n l := by
  refine ⟨hl, fun i x hx => ?_⟩
  have hi := lt_of_get hx
  obtain ⟨g, cap, hv, _⟩ := h.form (by omega)
  injection hv with hv1 hv2 hv3
  subst hv1
  obtain ⟨q0, q1, q2⟩ := chgCells_at l i x hx
  obtain ⟨b1, b2⟩ := hb x (List.mem_of_getElem? hx)
  refine ⟨g, 0, rfl, ?_, ?_, ?_, b1, b2⟩
  · rw [Nat.zero_add, h.cellAt (i * 3) (by omega)]; exact q0
  · rw [Nat.zero_add, h.cellAt (i * 3 + 1) (by omega)]; exact q1
  · rw [Nat.zero_add, h.cellAt (i * 3 + 2) (by omega)]; exact q2

theorem acts_of_own {w : World} {base : Nat} {A : Option Addr} {c n : Nat} {l : List Act4} (h : w.ownsRow base 27 5 (.slice A n c) n (actCells l)) (hl : l.length = n) (hb : ∀ x ∈ l, Act4In w x) : Acts4 w A n l := by
  refine ⟨hl, fun i x hx => ?_⟩
  have hi := lt_of_get hx
  obtain ⟨g, cap, hv, _⟩ := h.form (by omega)
  injection hv with hv1 hv2 hv3
  subst hv1
  obtain ⟨q0, q1, q2, q3, q4⟩ := actCells_at l i x hx
  refine ⟨g, 0, rfl, ?_, ?_, ?_, ?_, ?_, hb x (List.mem_of_getElem? hx)⟩
  · rw [Nat.zero_add, h.cellAt (i * 5) (by omega)]; exact q0
  · rw [Nat.zero_add, h.cellAt (i * 5 + 1) (by omega)]; exact q1
  · rw [Nat.zero_add, h.cellAt (i * 5 + 2) (by omega)]; exact q2
  · rw [Nat.zero_add, h.cellAt (i * 5 + 3) (by omega)]; exact q3
  · rw [Nat.zero_add, h.cellAt (i * 5 + 4) (by omega)]; exact q4

/-- Acts that came in are a source for append. -/
theorem Acts4.src {w : World} {A : Option Addr} {n : Nat} {l : List Act4} (h : Acts4 w A n l) : Src w A n (actCells l) := by
  have hl := h.len
  refine ⟨fun hA => ?_, fun ad hA j u hu => ?_⟩
  · rcases Nat.eq_zero_or_pos n with h0 | h0
    · exact h0
    · obtain ⟨b, o, hb, _⟩ := h.at_ 0 (l[0]'(by omega)) (List.getElem?_eq_getElem (by omega))
      rw [hA] at hb
      cases hb
  · have hj := lt_of_get hu
    rw [actCells_len] at hj
    have hx : l[j / 5]? = some (l[j / 5]'(by omega)) := List.getElem?_eq_getElem (by omega)
    obtain ⟨b, o, hb, ho⟩ := h.at_ _ _ hx
    rw [hA] at hb
    injection hb with hb
    subst hb
    rw [add_at]
    obtain ⟨q0, q1, q2, q3, q4⟩ := actCells_at l _ _ hx
    have hm : j = j / 5 * 5 + j % 5 := by omega
    have h5 : j % 5 < 5 := Nat.mod_lt _ (by decide)
    generalize l[j / 5]'(by omega) = x at *
    generalize j / 5 = a at *
    generalize j % 5 = r at *
    subst hm
    match r, h5 with
    | 0, _ => rw [Nat.add_zero, q0] at hu; injection hu with hu; subst hu; exact ho.c0
    | 1, _ => rw [q1] at hu; injection hu with hu; subst hu; exact ho.c1
    | 2, _ => rw [q2] at hu; injection hu with hu; subst hu; exact ho.c2
    | 3, _ => rw [q3] at hu; injection hu with hu; subst hu; exact ho.c3
    | 4, _ => rw [q4] at hu; injection hu with hu; subst hu; exact ho.c4

end Go.Proofs.YthgpjlmdllihmaaGreat
