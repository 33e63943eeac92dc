/- Texts of one proof, laid together: F63. -/
import Derived.Test.YtoggddoeanfjeaaGreatDoorMDB
import Derived.Test.YtoggddoeanfjeaaGreatDoorMD2
import Derived.BigQuiet
/- filter: what the program's Same finds (as in E31). -/
namespace Go.Proofs.YtoggddoeanfjeaaGreatDoor
open Go.RowKit Go.Shelf
set_option linter.unusedVariables false
set_option linter.unusedSimpArgs false
set_option maxRecDepth 100000

/-- The least number. -/
theorem least_ex {R : Nat → Prop} (h : ∃ m, R m) : ∃ m, R m ∧ ∀ k, R k → m ≤ k := by
  obtain ⟨m, hm⟩ := h
  induction m using Nat.strongRecOn with
  | _ m ih =>
    by_cases hk : ∃ k, k < m ∧ R k
    · obtain ⟨k, h1, h2⟩ := hk
      exact ih k h1 h2
    · exact ⟨m, hm, fun k h => Nat.le_of_not_lt fun hlt => hk ⟨k, hlt, h⟩⟩
open Classical in
/-- The least number of which it holds. -/
noncomputable def leastOf (R : Nat → Prop) : Nat := if h : ∃ m, R m then (least_ex h).choose else 0
theorem least_is {R : Nat → Prop} (h : ∃ m, R m) : R (leastOf R) := by
  unfold leastOf
  rw [dif_pos h]
  exact (least_ex h).choose_spec.1
theorem least_le {R : Nat → Prop} {m : Nat} (h : R m) : leastOf R ≤ m := by
  unfold leastOf
  rw [dif_pos ⟨m, h⟩]
  exact (least_ex ⟨m, h⟩).choose_spec.2 m h
/-- The last pair of an own row, and the row before it. -/
theorem own_pop {w : World} {base n d : Nat} {e : TypeId} {g : Option Addr} {xs : List Value} {a b : Value} (h : w.ownsRow base e 2 (.slice g (n + 1) d) (n + 1) (xs ++ [a, b])) (hx : xs.length = n * 2) :
    ∃ k, g = some ⟨k, 0, none⟩ ∧ base ≤ k ∧ k < w.heap.size ∧ n + 1 ≤ d ∧ d ≤ maxLen ∧ w.cell? ⟨k, 0 + n * 2, none⟩ = some a ∧ w.cell? ⟨k, 0 + n * 2 + 1, none⟩ = some b ∧ w.ownsRow base e 2 (.slice g n d) n xs := by
  obtain ⟨h1, h2⟩ := h
  rcases h2 with ⟨_, h2⟩ | ⟨k, cap, cur, hv, hb, hh, hnc, hcm, hcs, ht⟩
  · omega
  · injection hv with e1 e2 e3
    subst e1 e3
    have hlt := lt_of_heap hh
    have get : ∀ j, j < (n + 1) * 2 → w.cell? ⟨k, j, none⟩ = (xs ++ [a, b])[j]? := fun j hj => by
      rw [cell_of_blk hh j, ← ht, List.getElem?_take]
      simp [hj]
    refine ⟨k, rfl, hb, hlt, hnc, hcm, ?_, ?_, hx, .inr ⟨k, d, cur, rfl, hb, hh, by omega, hcm, hcs, ?_⟩⟩
    · rw [Nat.zero_add, get (n * 2) (by omega), List.getElem?_append_right (by omega), hx]
      simp
    · rw [Nat.zero_add, get (n * 2 + 1) (by omega), List.getElem?_append_right (by omega), hx]
      simp
    · have h9 := congrArg (List.take (n * 2)) ht
      rw [List.take_take, Nat.min_eq_left (by omega), ← hx, List.take_left] at h9
      rw [hx] at h9
      exact h9
theorem fpair_info : (Tryz.prog.info? 75).map (fun i => (i.zero, i.size, i.bytes)) = some (some (.agg #[.slice none 0 0, .slice none 0 0]), 2, 48) := by kernel_rfl
mutual
/-- How many filters a filter is. -/
def szF : FV → Nat
  | .mk _ l _ _ => 1 + szFL l
def szFL : List FV → Nat
  | [] => 0
  | t :: r => szF t + szFL r
end
theorem leftVL_sz (d : Nat) : ∀ (l : List FV) (r : Int), (∀ t ∈ l, ∀ q, 0 ≤ q → 0 ≤ leftV d q t → leftV d q t + (szF t : Int) ≤ q) → 0 ≤ leftVL d r l → leftVL d r l + (szFL l : Int) ≤ r
  | [], r, _, h => by unfold leftVL szFL; unfold leftVL at h; omega
  | t :: rest, r, ht, h => by
    unfold leftVL at h ⊢
    unfold szFL
    split at h
    · rename_i h0
      rw [if_pos h0]
      by_cases h1 : 0 ≤ leftV d r t
      · have h2 := ht t (List.mem_cons_self ..) r h0 h1
        have h3 := leftVL_sz d rest (leftV d r t) (fun x hx => ht x (List.mem_cons_of_mem _ hx)) h
        omega
      · exfalso
        cases rest with
        | nil => unfold leftVL at h; omega
        | cons a b => unfold leftVL at h; rw [if_neg h1] at h; omega
    · rename_i h0; exfalso; omega
theorem leftV_sz : ∀ (t : FV) (d : Nat) (r : Int), 0 ≤ r → 0 ≤ leftV d r t → leftV d r t + (szF t : Int) ≤ r := by
  intro t
  induction t using FV.ind with
  | h k l s v ih =>
    intro d r hr h
    unfold leftV at h ⊢
    unfold szF
    split at h
    · omega
    · rename_i hc
      rw [if_neg hc]
      have := leftVL_sz (d + 1) l _ (fun t ht q hq h => ih t ht (d + 1) q hq h) h
      omega
/-- Two rows of filters to be held against one another. -/
structure SR8 where
  n : Nat
  A : Option Addr
  c : Nat
  B : Option Addr
  d : Nat
  x : List FV
  y : List FV
def SR8.cells (s : SR8) : List Value := [.slice s.A s.n s.c, .slice s.B s.n s.d]
def SR8.ok (s : SR8) (w : World) : Prop := s.x.length = s.n ∧ s.y.length = s.n ∧ s.n ≤ 9223372036854775807 ∧ FilsAt w s.A 0 s.x ∧ FilsAt w s.B 0 s.y
def stackV8 (S : List SR8) : List Value := S.flatMap SR8.cells
theorem stackV8_len : ∀ S : List SR8, (stackV8 S).length = S.length * 2
  | [] => rfl
  | s :: r => by
    have := stackV8_len r
    unfold stackV8 at *
    rw [List.flatMap_cons, List.length_append, this, List.length_cons]
    show 2 + _ = _
    omega
theorem stackV8_snoc (S : List SR8) (s : SR8) : stackV8 (S ++ [s]) = stackV8 S ++ [.slice s.A s.n s.c, .slice s.B s.n s.d] := by
  simp [stackV8, SR8.cells]
def allS8 (S : List SR8) : Bool := S.all fun s => sameFL s.x s.y
theorem allS8_snoc (S : List SR8) (s : SR8) : allS8 (S ++ [s]) = (allS8 S && sameFL s.x s.y) := by simp [allS8]
def nodesS8 (S : List SR8) : Nat := (S.map fun s => 1 + szFL s.x).sum
theorem nodesS8_snoc (S : List SR8) (s : SR8) : nodesS8 (S ++ [s]) = nodesS8 S + (1 + szFL s.x) := by simp [nodesS8]
theorem nodesS8_len : ∀ S : List SR8, S.length ≤ nodesS8 S
  | [] => Nat.zero_le _
  | s :: r => by
    have := nodesS8_len r
    unfold nodesS8 at *
    simp at *
    omega
theorem sameFL_drop {sx sy : List FV} {j : Nat} {x y : FV} (hx : sx[j]? = some x) (hy : sy[j]? = some y) : sameFL (sx.drop j) (sy.drop j) = (sameF x y && sameFL (sx.drop (j + 1)) (sy.drop (j + 1))) := by
  obtain ⟨h1, rfl⟩ := List.getElem?_eq_some_iff.1 hx
  obtain ⟨h2, rfl⟩ := List.getElem?_eq_some_iff.1 hy
  rw [List.drop_eq_getElem_cons h1, List.drop_eq_getElem_cons h2]
  simp [sameFL]
theorem szFL_drop {sx : List FV} {j : Nat} {x : FV} (hx : sx[j]? = some x) : szFL (sx.drop j) = szF x + szFL (sx.drop (j + 1)) := by
  obtain ⟨h1, rfl⟩ := List.getElem?_eq_some_iff.1 hx
  rw [List.drop_eq_getElem_cons h1]
  simp [szFL]
theorem szF_l (t : FV) : szF t = 1 + szFL t.l := by cases t; rfl
theorem sameF_l (t u : FV) : sameF t u = (likeH t.k u.k t.s u.s t.v u.v t.l.length u.l.length && sameFL t.l u.l) := by cases t; cases u; rfl
theorem FilAt.head {w : World} {t : FV} {h : FH} (ht : FilAt w t h) : h.k = t.k ∧ h.s = t.s ∧ h.v = t.v ∧ t.l.length = h.lb ∧ h.lb ≤ h.cb ∧ h.cb ≤ 9223372036854775807 ∧ t.s.length ≤ 9223372036854775807 ∧ FilsAt w h.B 0 t.l := by
  cases t with
  | mk k l s v =>
    obtain ⟨h1, h2, h3, h4, h5, h6, h7, h8, h9, h10, h11⟩ := ht
    exact ⟨h1, h2, h3, h8, h9, h10, h6, h11⟩
/-- What the rounds over the stack find. -/
def StkR (res : Bool) (V : World) (v : Value) (wr : World) (m : Nat) : Prop :=
  ∃ (S : List SR8) (g : Option Addr) (d : Nat), v = .slice g S.length d ∧ nodesS8 S = m ∧ m ≤ 100000 ∧ wr.ownsRow V.heap.size 75 2 v S.length (stackV8 S) ∧ (∀ s ∈ S, s.ok V) ∧ allS8 S = res ∧ Keeps [] V wr
/-- What the rounds over a pair of rows find. -/
def StpR (res : Bool) (V : World) (g5 m : Nat) (s : SR8) (j : Nat) (v : Value) (wr : World) : Prop :=
  ∃ (S : List SR8) (n : Nat) (g : Option Addr) (d : Nat), v = .slice g n d ∧ S.length = n ∧ nodesS8 S + szFL (s.x.drop j) + 1 ≤ m ∧ wr.ownsRow V.heap.size 75 2 v n (stackV8 S) ∧ (∀ x ∈ S, x.ok V) ∧ (allS8 S && sameFL (s.x.drop j) (s.y.drop j)) = res ∧ Keeps [] V wr ∧ wr.heap[g5]? = some (.cells #[.slice s.A s.n s.c, .slice s.B s.n s.d] 75 (0, 0)) ∧ (∀ b, v.ownBlock = some b → b ≠ g5)
theorem slice_to8 (b o n c k : Nat) (hk : k ≤ c) (hnc : n ≤ c) : ∀ W, (Instr.slice 76 (.slice (some ⟨b, o, none⟩) n c) none (some (.int .i64 (k : Int))) none).run Tryz.prog W = .ok (.slice (some ⟨b, o, none⟩) k c) W := by
  intro W
  rw [run_slice_h W 76 (some ⟨b, o, none⟩) n c (by simp [Program.elem, Tryz.underlying76]) .i64 _ (by omega) (by omega)]
  rw [show Tryz.prog.elem 76 = 75 by simp [Program.elem, Tryz.underlying76], Tryz.sizeOf75]
  simp [Result.andThen, sliced, add_at]
end Go.Proofs.YtoggddoeanfjeaaGreatDoor
