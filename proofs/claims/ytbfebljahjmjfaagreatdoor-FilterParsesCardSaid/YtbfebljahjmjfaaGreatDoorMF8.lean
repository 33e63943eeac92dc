/- Texts of one proof, laid together: F43 F63 F44 F45 F46 F50. -/
import Derived.Test.YtbfebljahjmjfaaGreatDoorME3
import Derived.BigQuiet
import Derived.Test.YtbfebljahjmjfaaGreatDoorMF7
import Derived.Test.YtbfebljahjmjfaaGreatDoorME8
import Derived.Test.YtbfebljahjmjfaaGreatDoorMF6
import Derived.Test.YtbfebljahjmjfaaGreatDoorME9
import Derived.Test.YtbfebljahjmjfaaGreatDoorME5
/- filter: the law's left and light: is a filter light? -/
namespace Go.Proofs.YtbfebljahjmjfaaGreatDoor
open Go.RowKit Go.Shelf
set_option linter.unusedVariables false
set_option linter.unusedSimpArgs false
set_option maxRecDepth 100000

mutual
/-- What is left of a weight behind a filter; below 0: it was too heavy, or is too deep. -/
def leftV : Nat → Int → FV → Int
  | d, r, .mk _ l s v => if 40 < d ∨ r < (l.length : Int) ∨ r < (s.length : Int) ∨ r < (v.length : Int) then -1 else leftVL (d + 1) (r - 1 - (s.length : Int) - (v.length : Int)) l
def leftVL : Nat → Int → List FV → Int
  | _, r, [] => r
  | d, r, t :: rest => if 0 ≤ r then leftVL d (leftV d r t) rest else r
end
theorem leftVL_in (d : Nat) (M : Int) : ∀ (l : List FV) (r : Int), -M ≤ r → (∀ t ∈ l, ∀ q, 0 ≤ q → q ≤ r → -M ≤ leftV d q t ∧ leftV d q t ≤ q) → -M ≤ leftVL d r l ∧ leftVL d r l ≤ r
  | [], r, h, _ => by unfold leftVL; omega
  | t :: rest, r, h, ht => by
    unfold leftVL
    split
    · rename_i h0
      have h1 := ht t (List.mem_cons_self ..) r h0 (Int.le_refl _)
      have h2 := leftVL_in d M rest (leftV d r t) h1.1 (fun x hx q hq hq2 => ht x (List.mem_cons_of_mem _ hx) q hq (by omega))
      omega
    · omega
theorem leftV_in (M : Int) (hM : 4001 ≤ M) : ∀ (t : FV) (d : Nat) (r : Int), 0 ≤ r → r ≤ 4000 → -M ≤ leftV d r t ∧ leftV d r t ≤ r := by
  intro t
  induction t using FV.ind with
  | h k l s v ih =>
    intro d r hr hr4
    unfold leftV
    split
    · omega
    · have h1 := leftVL_in (d + 1) M l (r - 1 - (s.length : Int) - (v.length : Int)) (by omega) (fun t ht q hq hq2 => ih t ht (d + 1) q hq (by omega))
      omega

end Go.Proofs.YtbfebljahjmjfaaGreatDoor
/- filter: what the program's Same finds (as in E31). -/
namespace Go.Proofs.YtbfebljahjmjfaaGreatDoor
open Go.RowKit Go.Shelf
set_option linter.unusedVariables false
set_option linter.unusedSimpArgs false
set_option maxRecDepth 100000

/-- The least number. -/
theorem least_ex {R : Nat → Prop} (h : ∃ m, R m) : ∃ m, R m ∧ ∀ k, R k → m ≤ k := by
  obtain ⟨m, hm⟩ := h
  induction m using Nat.strongRecOn with
  | _ m ih =>
    by_cases hk : ∃ k, k < m ∧ R k
    · obtain ⟨k, h1, h2⟩ := hk
      exact ih k h1 h2
    · exact ⟨m, hm, fun k h => Nat.le_of_not_lt fun hlt => hk ⟨k, hlt, h⟩⟩
open Classical in
/-- The least number of which it holds. -/
noncomputable def leastOf (R : Nat → Prop) : Nat := if h : ∃ m, R m then (least_ex h).choose else 0
theorem least_is {R : Nat → Prop} (h : ∃ m, R m) : R (leastOf R) := by
  unfold leastOf
  rw [dif_pos h]
  exact (least_ex h).choose_spec.1
theorem least_le {R : Nat → Prop} {m : Nat} (h : R m) : leastOf R ≤ m := by
  unfold leastOf
  rw [dif_pos ⟨m, h⟩]
  exact (least_ex ⟨m, h⟩).choose_spec.2 m h
/-- The last pair of an own row, and the row before it. -/
theorem own_pop {w : World} {base n d : Nat} {e : TypeId} {g : Option Addr} {xs : List Value} {a b : Value} (h : w.ownsRow base e 2 (.slice g (n + 1) d) (n + 1) (xs ++ [a, b])) (hx : xs.length = n * 2) :
    ∃ k, g = some ⟨k, 0, none⟩ ∧ base ≤ k ∧ k < w.heap.size ∧ n + 1 ≤ d ∧ d ≤ maxLen ∧ w.cell? ⟨k, 0 + n * 2, none⟩ = some a ∧ w.cell? ⟨k, 0 + n * 2 + 1, none⟩ = some b ∧ w.ownsRow base e 2 (.slice g n d) n xs := by
  obtain ⟨h1, h2⟩ := h
  rcases h2 with ⟨_, h2⟩ | ⟨k, cap, cur, hv, hb, hh, hnc, hcm, hcs, ht⟩
  · omega
  · injection hv with e1 e2 e3
    subst e1 e3
    have hlt := lt_of_heap hh
    have get : ∀ j, j < (n + 1) * 2 → w.cell? ⟨k, j, none⟩ = (xs ++ [a, b])[j]? := fun j hj => by
      rw [cell_of_blk hh j, ← ht, List.getElem?_take]
      simp [hj]
    refine ⟨k, rfl, hb, hlt, hnc, hcm, ?_, ?_, hx, .inr ⟨k, d, cur, rfl, hb, hh, by omega, hcm, hcs, ?_⟩⟩
    · rw [Nat.zero_add, get (n * 2) (by omega), List.getElem?_append_right (by omega), hx]
      simp
    · rw [Nat.zero_add, get (n * 2 + 1) (by omega), List.getElem?_append_right (by omega), hx]
      simp
    · have h9 := congrArg (List.take (n * 2)) ht
      rw [List.take_take, Nat.min_eq_left (by omega), ← hx, List.take_left] at h9
      rw [hx] at h9
      exact h9
theorem fpair_info : (Tryz.prog.info? 156).map (fun i => (i.zero, i.size, i.bytes)) = some (some (.agg #[.slice none 0 0, .slice none 0 0]), 2, 48) := by kernel_rfl
mutual
/-- How many filters a filter is. -/
def szF : FV → Nat
  | .mk _ l _ _ => 1 + szFL l
def szFL : List FV → Nat
  | [] => 0
  | t :: r => szF t + szFL r
end
theorem leftVL_sz (d : Nat) : ∀ (l : List FV) (r : Int), (∀ t ∈ l, ∀ q, 0 ≤ q → 0 ≤ leftV d q t → leftV d q t + (szF t : Int) ≤ q) → 0 ≤ leftVL d r l → leftVL d r l + (szFL l : Int) ≤ r
  | [], r, _, h => by unfold leftVL szFL; unfold leftVL at h; omega
  | t :: rest, r, ht, h => by
    unfold leftVL at h ⊢
    unfold szFL
    split at h
    · rename_i h0
      rw [if_pos h0]
      by_cases h1 : 0 ≤ leftV d r t
      · have h2 := ht t (List.mem_cons_self ..) r h0 h1
        have h3 := leftVL_sz d rest (leftV d r t) (fun x hx => ht x (List.mem_cons_of_mem _ hx)) h
        omega
      · exfalso
        cases rest with
        | nil => unfold leftVL at h; omega
        | cons a b => unfold leftVL at h; rw [if_neg h1] at h; omega
    · rename_i h0; exfalso; omega
theorem leftV_sz : ∀ (t : FV) (d : Nat) (r : Int), 0 ≤ r → 0 ≤ leftV d r t → leftV d r t + (szF t : Int) ≤ r := by
  intro t
  induction t using FV.ind with
  | h k l s v ih =>
    intro d r hr h
    unfold leftV at h ⊢
    unfold szF
    split at h
    · omega
    · rename_i hc
      rw [if_neg hc]
      have := leftVL_sz (d + 1) l _ (fun t ht q hq h => ih t ht (d + 1) q hq h) h
      omega
/-- Two rows of filters to be held against one another. -/
structure SR8 where
  n : Nat
  A : Option Addr
  c : Nat
  B : Option Addr
  d : Nat
  x : List FV
  y : List FV
def SR8.cells (s : SR8) : List Value := [.slice s.A s.n s.c, .slice s.B s.n s.d]
def SR8.ok (s : SR8) (w : World) : Prop := s.x.length = s.n ∧ s.y.length = s.n ∧ s.n ≤ 9223372036854775807 ∧ FilsAt w s.A 0 s.x ∧ FilsAt w s.B 0 s.y
def stackV8 (S : List SR8) : List Value := S.flatMap SR8.cells
theorem stackV8_len : ∀ S : List SR8, (stackV8 S).length = S.length * 2
  | [] => rfl
  | s :: r => by
    have := stackV8_len r
    unfold stackV8 at *
    rw [List.flatMap_cons, List.length_append, this, List.length_cons]
    show 2 + _ = _
    omega
theorem stackV8_snoc (S : List SR8) (s : SR8) : stackV8 (S ++ [s]) = stackV8 S ++ [.slice s.A s.n s.c, .slice s.B s.n s.d] := by
  simp [stackV8, SR8.cells]
def allS8 (S : List SR8) : Bool := S.all fun s => sameFL s.x s.y
theorem allS8_snoc (S : List SR8) (s : SR8) : allS8 (S ++ [s]) = (allS8 S && sameFL s.x s.y) := by simp [allS8]
def nodesS8 (S : List SR8) : Nat := (S.map fun s => 1 + szFL s.x).sum
theorem nodesS8_snoc (S : List SR8) (s : SR8) : nodesS8 (S ++ [s]) = nodesS8 S + (1 + szFL s.x) := by simp [nodesS8]
theorem nodesS8_len : ∀ S : List SR8, S.length ≤ nodesS8 S
  | [] => Nat.zero_le _
  | s :: r => by
    have := nodesS8_len r
    unfold nodesS8 at *
    simp at *
    omega
theorem sameFL_drop {sx sy : List FV} {j : Nat} {x y : FV} (hx : sx[j]? = some x) (hy : sy[j]? = some y) : sameFL (sx.drop j) (sy.drop j) = (sameF x y && sameFL (sx.drop (j + 1)) (sy.drop (j + 1))) := by
  obtain ⟨h1, rfl⟩ := List.getElem?_eq_some_iff.1 hx
  obtain ⟨h2, rfl⟩ := List.getElem?_eq_some_iff.1 hy
  rw [List.drop_eq_getElem_cons h1, List.drop_eq_getElem_cons h2]
  simp [sameFL]
theorem szFL_drop {sx : List FV} {j : Nat} {x : FV} (hx : sx[j]? = some x) : szFL (sx.drop j) = szF x + szFL (sx.drop (j + 1)) := by
  obtain ⟨h1, rfl⟩ := List.getElem?_eq_some_iff.1 hx
  rw [List.drop_eq_getElem_cons h1]
  simp [szFL]
theorem szF_l (t : FV) : szF t = 1 + szFL t.l := by cases t; rfl
theorem sameF_l (t u : FV) : sameF t u = (likeH t.k u.k t.s u.s t.v u.v t.l.length u.l.length && sameFL t.l u.l) := by cases t; cases u; rfl
theorem FilAt.head {w : World} {t : FV} {h : FH} (ht : FilAt w t h) : h.k = t.k ∧ h.s = t.s ∧ h.v = t.v ∧ t.l.length = h.lb ∧ h.lb ≤ h.cb ∧ h.cb ≤ 9223372036854775807 ∧ t.s.length ≤ 9223372036854775807 ∧ FilsAt w h.B 0 t.l := by
  cases t with
  | mk k l s v =>
    obtain ⟨h1, h2, h3, h4, h5, h6, h7, h8, h9, h10, h11⟩ := ht
    exact ⟨h1, h2, h3, h8, h9, h10, h6, h11⟩
/-- What the rounds over the stack find. -/
def StkR (res : Bool) (V : World) (v : Value) (wr : World) (m : Nat) : Prop :=
  ∃ (S : List SR8) (g : Option Addr) (d : Nat), v = .slice g S.length d ∧ nodesS8 S = m ∧ m ≤ 100000 ∧ wr.ownsRow V.heap.size 156 2 v S.length (stackV8 S) ∧ (∀ s ∈ S, s.ok V) ∧ allS8 S = res ∧ Keeps [] V wr
/-- What the rounds over a pair of rows find. -/
def StpR (res : Bool) (V : World) (g5 m : Nat) (s : SR8) (j : Nat) (v : Value) (wr : World) : Prop :=
  ∃ (S : List SR8) (n : Nat) (g : Option Addr) (d : Nat), v = .slice g n d ∧ S.length = n ∧ nodesS8 S + szFL (s.x.drop j) + 1 ≤ m ∧ wr.ownsRow V.heap.size 156 2 v n (stackV8 S) ∧ (∀ x ∈ S, x.ok V) ∧ (allS8 S && sameFL (s.x.drop j) (s.y.drop j)) = res ∧ Keeps [] V wr ∧ wr.heap[g5]? = some (.cells #[.slice s.A s.n s.c, .slice s.B s.n s.d] 156 (0, 0)) ∧ (∀ b, v.ownBlock = some b → b ≠ g5)
theorem slice_to8 (b o n c k : Nat) (hk : k ≤ c) (hnc : n ≤ c) : ∀ W, (Instr.slice 157 (.slice (some ⟨b, o, none⟩) n c) none (some (.int .i64 (k : Int))) none).run Tryz.prog W = .ok (.slice (some ⟨b, o, none⟩) k c) W := by
  intro W
  rw [run_slice_h W 157 (some ⟨b, o, none⟩) n c (by simp [Program.elem, Tryz.underlying157]) .i64 _ (by omega) (by omega)]
  rw [show Tryz.prog.elem 157 = 156 by simp [Program.elem, Tryz.underlying157], Tryz.sizeOf156]
  simp [Result.andThen, sliced, add_at]
end Go.Proofs.YtbfebljahjmjfaaGreatDoor
/- filter: literals in memory (as in W7, W33). -/
namespace Go.Proofs.YtbfebljahjmjfaaGreatDoor
open Go.RowKit Go.Shelf
set_option linter.unusedVariables false
set_option linter.unusedSimpArgs false
set_option maxRecDepth 100000

def At7.val (a : At7) : Value := .slice a.A a.n a.c
def atCells (l : List At7) : List Value := l.flatMap fun a => [tv a.name, a.val]
theorem atCells_len (l : List At7) : (atCells l).length = l.length * 2 := by
  unfold atCells
  induction l with
  | nil => rfl
  | cons p r ih => simp only [List.flatMap_cons, List.length_append, ih, List.length_cons, List.length_nil]; omega
theorem atCells_at : ∀ (l : List At7) (i : Nat) (a : At7), l[i]? = some a → (atCells l)[i * 2]? = some (tv a.name) ∧ (atCells l)[i * 2 + 1]? = some a.val
  | [], i, p, h => by simp at h
  | q :: r, 0, p, h => by simp at h; subst h; simp [atCells]
  | q :: r, i + 1, p, h => by
    have ih := atCells_at r i p (by simpa using h)
    have e : atCells (q :: r) = tv q.name :: q.val :: atCells r := rfl
    rw [e, show (i + 1) * 2 = i * 2 + 1 + 1 by omega]
    simpa using ih
theorem EntIn.of_own {w : World} {B n c : Nat} {A : Option Addr} {t : TypeId} {l : List At7} (h : w.ownsRow B t 2 (.slice A n c) n (atCells l)) (hn : l.length = n) (hl : ∀ a ∈ l, a.fits w) : EntIn w A n l := by
  refine ⟨hn, hl, fun hp => ?_⟩
  rcases h.2 with ⟨_, h2⟩ | ⟨g, cap, cur, hA, hg, hh, r⟩
  · exfalso; omega
  · injection hA with e1 e2 e3
    subst e1
    refine ⟨g, 0, rfl, fun i a hi => ?_⟩
    obtain ⟨d1, d2⟩ := atCells_at l i a hi
    have c1 := h.cells (g := g) rfl (i * 2) _ d1
    have c2 := h.cells (g := g) rfl (i * 2 + 1) _ d2
    rw [show (⟨g, 0, none⟩ : Addr).add (i * 2) = ⟨g, 0 + i * 2, none⟩ from by unfold Addr.add; split <;> simp_all] at c1
    rw [show (⟨g, 0, none⟩ : Addr).add (i * 2 + 1) = ⟨g, 0 + i * 2 + 1, none⟩ from by unfold Addr.add; split <;> simp_all <;> omega] at c2
    exact ⟨c1, c2⟩
theorem strs_lit (w : World) (l : List Txt) (n : Nat) (cs : Array Value) (hc : cs = (l.map tv).toArray) (hn : l.length = n) (hm : n ≤ 1000) (ht : ∀ s ∈ l, s.length ≤ 1000) : StrsIn (w.alloc (.cells cs 9)) (some ⟨w.heap.size, 0, none⟩) n l := by
  subst hc
  have h := World.ownsRow_lit (base := w.heap.size) (e := 9) (size := 1) w (l.map tv).toArray n (Nat.le_refl _) (by unfold maxLen; omega) (by simp [hn])
  exact StrsIn.of_own (by simpa using h) hn (fun s hs => by have := ht s hs; omega)
theorem ents_lit (w : World) (l : List At7) (n : Nat) (cs : Array Value) (hc : cs = (atCells l).toArray) (hn : l.length = n) (hm : n ≤ 1000) (hf : ∀ a ∈ l, a.fits w) : EntIn (w.alloc (.cells cs 70)) (some ⟨w.heap.size, 0, none⟩) n l := by
  subst hc
  have h := World.ownsRow_lit (base := w.heap.size) (e := 70) (size := 2) w (atCells l).toArray n (Nat.le_refl _) (by unfold maxLen; omega) (by simp [atCells_len, hn])
  exact EntIn.of_own (by simpa using h) hn (fun a ha => (hf a ha).grow ((Keeps.refl [] w).alloc _))
theorem few_of {L : List At7} {E : List Att} (h : ents L = E) (hv : ∀ a ∈ L, a.vs.length = a.n) (h1 : E.length ≤ 1000) (h2 : ∀ x ∈ E, x.2.length ≤ 1000) : Few7 1000 L := by
  refine ⟨by rw [← ents_len, h]; exact h1, fun a ha => ?_⟩
  rw [← hv a ha]
  exact h2 a.att (by rw [← h]; unfold ents; exact List.mem_map_of_mem ha)
end Go.Proofs.YtbfebljahjmjfaaGreatDoor
/- filter: the law's known; walked. -/
namespace Go.Proofs.YtbfebljahjmjfaaGreatDoor
open Go.RowKit Go.Shelf
set_option linter.unusedVariables false
set_option linter.unusedSimpArgs false
set_option maxRecDepth 100000

def kT8 : Txt := [40, 38, 40, 99, 110, 61, 65, 42, 41, 40, 33, 40, 109, 97, 105, 108, 61, 42, 41, 41, 41]
def kF8 : FV := .mk 1 [.mk 5 [] [99, 110] [65], .mk 3 [.mk 6 [] [109, 97, 105, 108] []] [] []] [] []
def kA8 : List Att := [([99, 110], [[97, 110, 110, 97]])]
def kB8 : List Att := [([99, 110], [[97, 110, 110, 97]]), ([109, 97, 105, 108], [[120]])]
theorem r_one8 (a : Txt) : Rise [a] := by simp [Rise]
theorem r_cm8 : Rise [[99, 110], [109, 97, 105, 108]] := by unfold Rise; decide +kernel
theorem ord_one8 (a : Txt) : ordS [a] = [a] := ordS_rise (r_one8 a)
theorem ord_cm8 : ordS [[99, 110], [109, 97, 105, 108]] = [[99, 110], [109, 97, 105, 108]] := ordS_rise r_cm8
theorem ord_nil8 : ordS [] = [] := ordS_rise (by simp [Rise])
theorem okA8 : entOk kA8 = true := by
  unfold entOk
  rw [show namesT kA8 = [[99, 110]] from rfl, ord_one8]
  unfold kA8 oneOk attrOk
  simp only [List.all_cons, List.all_nil, ord_one8]
  decide +kernel
theorem okB8 : entOk kB8 = true := by
  unfold entOk
  rw [show namesT kB8 = [[99, 110], [109, 97, 105, 108]] from rfl, ord_cm8]
  unfold kB8 oneOk attrOk
  simp only [List.all_cons, List.all_nil, ord_one8]
  decide +kernel
theorem stands_plain {e : List Att} : standsP e [] = entOk e := by
  unfold standsP
  rw [show namesT [] = [] from rfl, ord_nil8]
  simp
theorem known_parse8 : parseF kT8 = some kF8 := by kernel_rfl
theorem known_right8 : rightF kF8 = true := by kernel_rfl
theorem known_meansA : meansP kA8 [] kF8 = (true, 0) := by
  unfold meansP
  rw [stands_plain, okA8, known_right8, if_pos ⟨rfl, rfl⟩]
  kernel_rfl
theorem known_meansB : meansP kB8 [] kF8 = (false, 0) := by
  unfold meansP
  rw [stands_plain, okB8, known_right8, if_pos ⟨rfl, rfl⟩]
  kernel_rfl
theorem known_text8 : ftextP kF8 = (kT8, 0) := by kernel_rfl
set_option maxHeartbeats 8000000 in
theorem known8_is (w : World) (hG : SgnAt w) (hs : SynAt w) : Calls Tryz.prog 8 #[] w fun e w' => e = .returned (.bool true) ∧ Keeps [] w w' := by
  have HPR : Hid (Calls Tryz.prog 9 #[.string ⟨#[40, 38, 40, 99, 110, 61, 65, 42, 41, 40, 33, 40, 109, 97, 105, 108, 61, 42, 41, 41, 41]⟩] w (PrsQ kT8 w)) := fparse_is kT8 w (by decide) hG hs
  have HG := Lib.hid hG
  have HKT := Lib.hid (show (⟨kT8.toArray⟩ : ByteArray) = ⟨#[40, 38, 40, 99, 110, 61, 65, 42, 41, 40, 33, 40, 109, 97, 105, 108, 61, 42, 41, 41, 41]⟩ from rfl)
  clear hG hs
  go_enter Tryz.func8, Tryz.ntmps8
  go_wp2_with fail
  refine HPR.out.mono ?_
  rintro e w1 ⟨⟨t, h, hp, rfl, hf⟩ | ⟨hp, _⟩, hk1⟩
  rotate_left
  · rw [known_parse8] at hp; cases hp
  rw [known_parse8] at hp
  injection hp with hp
  subst hp
  have HK1 := Lib.hid hk1
  have HF1 := Lib.hid hf
  clear hk1 hf HPR
  have HFA := Lib.hid (fun X (hX : Keeps [] w1 X) => FilAt.grow hX kF8 h HF1.out)
  obtain ⟨k, B, lb, cb, s, v⟩ := h
  have HBF := Lib.hid (heap_new8 w1 (.cells #[.int .i64 k, .slice B lb cb, .string ⟨s.toArray⟩, .string ⟨v.toArray⟩] 26))
  have HK2 : Hid (Keeps [] w1 (w1.alloc (.cells #[.int .i64 k, .slice B lb cb, .string ⟨s.toArray⟩, .string ⟨v.toArray⟩] 26))) := (Keeps.refl [] w1).alloc _
  have hz2 : (w1.alloc (.cells #[.int .i64 k, .slice B lb cb, .string ⟨s.toArray⟩, .string ⟨v.toArray⟩] 26)).heap.size = w1.heap.size + 1 := by simp
  obtain ⟨W2, hW2⟩ : ∃ W, w1.alloc (.cells #[.int .i64 k, .slice B lb cb, .string ⟨s.toArray⟩, .string ⟨v.toArray⟩] 26) = W := ⟨_, rfl⟩
  rw [hW2] at HBF HK2 hz2
  obtain ⟨⟨z0, z1, z2, z3⟩, _⟩ := four_facts8 HBF.out
  have HS3 := Lib.hid (strs_lit W2 [[97, 110, 110, 97]] 1 #[.string ⟨#[97, 110, 110, 97]⟩] rfl rfl (by omega) (by simp))
  have HK3 : Hid (Keeps [] W2 (W2.alloc (.cells #[.string ⟨#[97, 110, 110, 97]⟩] 9))) := (Keeps.refl [] W2).alloc _
  obtain ⟨W3, hW3⟩ : ∃ W, W2.alloc (.cells #[.string ⟨#[97, 110, 110, 97]⟩] 9) = W := ⟨_, rfl⟩
  have hz3 : W3.heap.size = w1.heap.size + 1 + 1 := by rw [← hW3]; simp [hz2]
  rw [hW3, hz2] at HS3
  rw [hW3] at HK3
  have HE4 := Lib.hid (ents_lit W3 [⟨[99, 110], some ⟨w1.heap.size + 1, 0, none⟩, 1, 1, [[97, 110, 110, 97]]⟩] 1 #[.string ⟨#[99, 110]⟩, .slice (some ⟨w1.heap.size + 1, 0, none⟩) 1 1] rfl rfl (by omega) (fun a ha => by
    simp at ha
    subst ha
    exact ⟨by simp, by simp, by simp, HS3.out⟩))
  have HK4 : Hid (Keeps [] W3 (W3.alloc (.cells #[.string ⟨#[99, 110]⟩, .slice (some ⟨w1.heap.size + 1, 0, none⟩) 1 1] 70))) := (Keeps.refl [] W3).alloc _
  obtain ⟨W4, hW4⟩ : ∃ W, W3.alloc (.cells #[.string ⟨#[99, 110]⟩, .slice (some ⟨w1.heap.size + 1, 0, none⟩) 1 1] 70) = W := ⟨_, rfl⟩
  rw [hW4, hz3] at HE4
  rw [hW4] at HK4
  have HKX4 := Lib.hid (HK2.out.trans' (HK3.out.trans' HK4.out))
  have hM4 := means8_is ⟨some ⟨w1.heap.size + 1 + 1, 0, none⟩, 1, 1, none, 0, 0⟩ _ [] kF8 ⟨k, B, lb, cb, s, v⟩ W4 ⟨HE4.out, ⟨by simp, fun a ha => by simp at ha; subst ha; simp⟩, ⟨rfl, by simp, fun h => by cases h⟩, ⟨by simp, by simp⟩⟩ (HFA.out W4 HKX4.out)
  unfold MnsQ at hM4
  rw [show ents [⟨[99, 110], some ⟨w1.heap.size + 1, 0, none⟩, 1, 1, [[97, 110, 110, 97]]⟩] = kA8 from rfl, show ents [] = [] from rfl, known_meansA] at hM4
  unfold FH.val tv at hM4 ⊢
  dsimp only at hM4 ⊢
  have HM4 := Lib.hid hM4
  clear hM4
  go_wp2_with fail
  refine HM4.out.mono ?_
  rintro e w5 ⟨rfl, hk5⟩
  have HK5 := Lib.hid (HKX4.out.trans' hk5)
  obtain ⟨⟨y0, y1, y2, y3⟩, _⟩ := four_facts8 (blk_keep HBF.out (HK3.out.trans' (HK4.out.trans' hk5)) (by simp))
  clear hk5 hW2 hW3 hW4 hz2 hz3 HM4 HS3 HE4 z0 z1 z2 z3
  have HS6 := Lib.hid (strs_lit w5 [[97, 110, 110, 97]] 1 #[.string ⟨#[97, 110, 110, 97]⟩] rfl rfl (by omega) (by simp))
  have HK6 : Hid (Keeps [] w5 (w5.alloc (.cells #[.string ⟨#[97, 110, 110, 97]⟩] 9))) := (Keeps.refl [] w5).alloc _
  obtain ⟨W6, hW6⟩ : ∃ W, w5.alloc (.cells #[.string ⟨#[97, 110, 110, 97]⟩] 9) = W := ⟨_, rfl⟩
  have hz6 : W6.heap.size = w5.heap.size + 1 := by rw [← hW6]; simp
  rw [hW6] at HS6 HK6
  have HS7 := Lib.hid (strs_lit W6 [[120]] 1 #[.string ⟨#[120]⟩] rfl rfl (by omega) (by simp))
  have HK7 : Hid (Keeps [] W6 (W6.alloc (.cells #[.string ⟨#[120]⟩] 9))) := (Keeps.refl [] W6).alloc _
  obtain ⟨W7, hW7⟩ : ∃ W, W6.alloc (.cells #[.string ⟨#[120]⟩] 9) = W := ⟨_, rfl⟩
  have hz7 : W7.heap.size = w5.heap.size + 1 + 1 := by rw [← hW7]; simp [hz6]
  rw [hW7, hz6] at HS7
  rw [hW7] at HK7
  have HE8 := Lib.hid (ents_lit W7 [⟨[99, 110], some ⟨w5.heap.size, 0, none⟩, 1, 1, [[97, 110, 110, 97]]⟩, ⟨[109, 97, 105, 108], some ⟨w5.heap.size + 1, 0, none⟩, 1, 1, [[120]]⟩] 2 #[.string ⟨#[99, 110]⟩, .slice (some ⟨w5.heap.size, 0, none⟩) 1 1, .string ⟨#[109, 97, 105, 108]⟩, .slice (some ⟨w5.heap.size + 1, 0, none⟩) 1 1] rfl rfl (by omega) (fun a ha => by
    simp at ha
    rcases ha with rfl | rfl
    · exact ⟨by simp, by simp, by simp, StrsIn.grow HK7.out HS6.out⟩
    · exact ⟨by simp, by simp, by simp, HS7.out⟩))
  have HK8 : Hid (Keeps [] W7 (W7.alloc (.cells #[.string ⟨#[99, 110]⟩, .slice (some ⟨w5.heap.size, 0, none⟩) 1 1, .string ⟨#[109, 97, 105, 108]⟩, .slice (some ⟨w5.heap.size + 1, 0, none⟩) 1 1] 70))) := (Keeps.refl [] W7).alloc _
  obtain ⟨W8, hW8⟩ : ∃ W, W7.alloc (.cells #[.string ⟨#[99, 110]⟩, .slice (some ⟨w5.heap.size, 0, none⟩) 1 1, .string ⟨#[109, 97, 105, 108]⟩, .slice (some ⟨w5.heap.size + 1, 0, none⟩) 1 1] 70) = W := ⟨_, rfl⟩
  rw [hW8, hz7] at HE8
  rw [hW8] at HK8
  have HKX8 := Lib.hid (HK5.out.trans' (HK6.out.trans' (HK7.out.trans' HK8.out)))
  have HKY8 := Lib.hid (HK6.out.trans' (HK7.out.trans' HK8.out))
  have hM8 := means8_is ⟨some ⟨w5.heap.size + 1 + 1, 0, none⟩, 2, 2, none, 0, 0⟩ _ [] kF8 ⟨k, B, lb, cb, s, v⟩ W8 ⟨HE8.out, ⟨by simp, fun a ha => by simp at ha; rcases ha with rfl | rfl <;> simp⟩, ⟨rfl, by simp, fun h => by cases h⟩, ⟨by simp, by simp⟩⟩ (HFA.out W8 HKX8.out)
  unfold MnsQ at hM8
  rw [show ents [⟨[99, 110], some ⟨w5.heap.size, 0, none⟩, 1, 1, [[97, 110, 110, 97]]⟩, ⟨[109, 97, 105, 108], some ⟨w5.heap.size + 1, 0, none⟩, 1, 1, [[120]]⟩] = kB8 from rfl, show ents [] = [] from rfl, known_meansB] at hM8
  unfold FH.val tv at hM8
  dsimp only at hM8
  have HM8 := Lib.hid hM8
  clear hM8
  go_wp2_with fail
  refine HM8.out.mono ?_
  rintro e w9 ⟨rfl, hk9⟩
  have HK9 := Lib.hid (HKX8.out.trans' hk9)
  have y9 := fun (q : Nat) (u : Value) (hu : w5.cell? ⟨w1.heap.size, q, none⟩ = some u) => ((HKY8.out.trans' hk9).cell (lt_of_cell hu) (by simp)).trans hu
  have x0 := y9 0 _ y0
  have x1 := y9 1 _ y1
  have x2 := y9 2 _ y2
  have x3 := y9 3 _ y3
  have hT := text8_is kF8 ⟨k, B, lb, cb, s, v⟩ w9 (HG.out.keep (HK1.out.trans' HK9.out)) (HFA.out w9 HK9.out)
  unfold TxtQ9 at hT
  rw [known_text8] at hT
  unfold FH.val tv at hT
  dsimp only at hT
  rw [HKT.out] at hT
  have HT := Lib.hid hT
  clear hT hk9 hW6 hW7 hW8 hz6 hz7 HM8 HS6 HS7 HE8 y0 y1 y2 y3 y9
  go_wp2_with fail
  refine HT.out.mono ?_
  rintro e w10 ⟨rfl, hk10⟩
  have HK10 := Lib.hid (HK1.out.trans' (HK9.out.trans' hk10))
  clear hk10
  go_wp2_with fail
  go_ret
  exact ⟨by first | rfl | simp, HK10.out⟩
end Go.Proofs.YtbfebljahjmjfaaGreatDoor
/- filter: the law's entries; walked. -/
namespace Go.Proofs.YtbfebljahjmjfaaGreatDoor
open Go.RowKit Go.Shelf
set_option linter.unusedVariables false
set_option linter.unusedSimpArgs false
set_option maxRecDepth 100000

/-- What a light entry is. -/
def LightE8 (l : List At7) : Prop := l.length ≤ 30 ∧ ∀ a ∈ l, a.n ≤ 20 ∧ a.name.length ≤ 200 ∧ ∀ s ∈ a.vs, s.length ≤ 4000
theorem LightE8.few {l : List At7} (h : LightE8 l) (m : Nat) (hm : 30 ≤ m) : Few7 m l := ⟨by have := h.1; omega, fun a ha => by have := (h.2 a ha).1; omega⟩
def LigQ8 (l : List At7) (w : World) (e : Ending) (w' : World) : Prop := ∃ r : Bool, e = .returned (.bool r) ∧ (r = true → LightE8 l) ∧ w = w'
end Go.Proofs.YtbfebljahjmjfaaGreatDoor
/- filter: filters in literals. -/
namespace Go.Proofs.YtbfebljahjmjfaaGreatDoor
open Go.RowKit Go.Shelf
set_option linter.unusedVariables false
set_option linter.unusedSimpArgs false
set_option maxRecDepth 100000

theorem filAt_plain (w : World) (k : Int) (s v : Txt) (hk : -9223372036854775808 ≤ k ∧ k ≤ 9223372036854775807) (hs : s.length ≤ 9223372036854775807) (hv : v.length ≤ 9223372036854775807) : FilAt w (.mk k [] s v) ⟨k, none, 0, 0, s, v⟩ :=
  ⟨rfl, rfl, rfl, hk.1, hk.2, hs, hv, rfl, Nat.le_refl _, Nat.zero_le _, trivial⟩
theorem subOk_plain {w : World} {A : Option Addr} {n c : Nat} {l : List At7} (h : EntIn w A n l) (hf : LightE8 l) : SubOk w ⟨A, n, c, none, 0, 0⟩ l [] :=
  ⟨h, hf.few 100000 (by omega), ⟨rfl, by simp, fun h => by cases h⟩, ⟨by simp, by simp⟩⟩
/-- A filter with some in it and no texts. -/
theorem filAt_of (w : World) (k : Int) (l : List FV) (B : Option Addr) (n c : Nat) (hk : -9223372036854775808 ≤ k ∧ k ≤ 9223372036854775807) (hl : l.length = n) (hn : n ≤ c) (hc : c ≤ 9223372036854775807) (h : FilsAt w B 0 l) : FilAt w (.mk k l [] []) ⟨k, B, n, c, [], []⟩ :=
  ⟨rfl, rfl, rfl, hk.1, hk.2, Nat.zero_le _, Nat.zero_le _, hl, hn, hc, h⟩
theorem fils_lit (w : World) (l : List FV) (hs : List FH) (n : Nat) (cs : Array Value) (hc : cs = (headsF hs).toArray) (hn : l.length = n) (hh : hs.length = n) (hm : n ≤ 1000) (hf : ∀ (i : Nat) (t : FV) (h : FH), l[i]? = some t → hs[i]? = some h → FilAt w t h) : FilsAt (w.alloc (.cells cs 26)) (some ⟨w.heap.size, 0, none⟩) 0 l := by
  subst hc
  have h := World.ownsRow_lit (base := w.heap.size) (e := 26) (size := 4) w (headsF hs).toArray n (Nat.le_refl _) (by unfold maxLen; omega) (by simp [headsF_len, hh])
  exact fils_own (hs := hs) (by simpa using h) hh hn (fun i t h ht hh' => FilAt.grow ((Keeps.refl [] w).alloc _) t h (hf i t h ht hh'))
theorem fils_take {w : World} {B : Option Addr} {i : Nat} {l : List FV} (h : FilsAt w B i l) (n : Nat) : FilsAt w B i (l.take n) := fils_of (fun j t ht => h.at_ j t (by
  rw [List.getElem?_take] at ht
  split at ht
  · exact ht
  · cases ht))
theorem fils_drop {w : World} {b o : Nat} {l : List FV} (h : FilsAt w (some ⟨b, o, none⟩) 0 l) (n : Nat) : FilsAt w (some ⟨b, o + n * 4, none⟩) 0 (l.drop n) := fils_of (fun j t ht => by
  rw [List.getElem?_drop] at ht
  obtain ⟨b9, o9, h9, e, h1, h2⟩ := h.at_ (n + j) t ht
  cases e
  refine ⟨_, _, h9, rfl, fun q u hu => ?_, h2⟩
  rw [← h1 q u hu, show o + n * 4 + (0 + j) * 4 + q = o + (0 + (n + j)) * 4 + q by omega])
theorem slice1_to (g : Nat) (W : World) : (Instr.slice 24 (.slice (some ⟨g, 0, none⟩) 2 2) none (some (.int .i64 1)) none).run Tryz.prog W = .ok (.slice (some ⟨g, 0, none⟩) 1 2) W := by kernel_rfl
theorem slice1_from (g : Nat) (W : World) : (Instr.slice 24 (.slice (some ⟨g, 0, none⟩) 2 2) (some (.int .i64 1)) none none).run Tryz.prog W = .ok (.slice (some ⟨g, 4, none⟩) 1 1) W := by kernel_rfl
end Go.Proofs.YtbfebljahjmjfaaGreatDoor
