import Derived.Test.YtbfebljahjmjfaaGreatDoorQ30
import Derived.BigQuiet
import Derived.Test.YtbfebljahjmjfaaGreatDoorQ13
/- filter: a Value that stands in a text, as the document reads it; that it is the program's. -/
namespace Go.Proofs.YtbfebljahjmjfaaGreatDoor
open Go.RowKit Go.Shelf
set_option linter.unusedVariables false
set_option linter.unusedSimpArgs false
set_option maxRecDepth 100000

/-- The Value that a text begins with, and what is left, from ) or * on. -/
def valR : Nat → Txt → Option (Txt × Txt)
 | _, [] => none
 | 0, _ :: _ => none
 | f + 1, c :: l => if c = 41 ∨ c = 42 then some ([], c :: l) else if c = 40 ∨ c.toNat < 32 ∨ 126 < c.toNat then none else if c = 92 then (match l with
   | a :: b :: r => (match dig1 a.toNat, dig1 b.toNat with
    | some x, some y => (valR f r).map (fun p => (UInt8.ofNat (16 * x + y) :: p.1, p.2))
    | _, _ => none)
   | _ => none) else (valR f l).map (fun p => (c :: p.1, p.2))
theorem plnV_fuel : ∀ (f : Nat) (T : Txt), T.length ≤ f → plnV f T = plnV T.length T
 | f, [], _ => by cases f <;> simp [plnV]
 | 0, c :: l, h => by simp at h
 | f + 1, c :: l, h => by
  simp only [List.length_cons] at h ⊢
  rw [plnV_cons, plnV_cons, plnV_fuel f l (by omega), plnV_fuel f (l.drop 2) (by simp; omega), plnV_fuel l.length (l.drop 2) (by simp)]
theorem valR_fuel : ∀ (f : Nat) (T : Txt), T.length ≤ f → valR f T = valR T.length T
 | f, [], _ => by cases f <;> simp [valR]
 | 0, c :: l, h => by simp at h
 | f + 1, c :: l, h => by
  simp only [List.length_cons] at h ⊢
  unfold valR
  rw [valR_fuel f l (by omega)]
  split
  ·rfl
  ·split
   ·rfl
   ·split
    ·match l, h with
     | [], _ => rfl
     | [a], _ => rfl
     | a :: b :: r, h =>
      simp only [List.length_cons] at h ⊢
      rw [valR_fuel f r (by omega), valR_fuel (r.length + 1 + 1) r (by omega)]
    ·rfl
theorem hexN_pair (a b : UInt8) : hexN [a, b] = match dig1 a.toNat, dig1 b.toNat with
  | some x, some y => some (16 * x + y)
  | _, _ => none := by
 unfold hexN
 simp only [List.foldl_cons, List.foldl_nil]
 cases dig1 a.toNat with
 | none => simp
 | some x =>
  cases dig1 b.toNat with
  | none => simp
  | some y => simp
theorem dig_sign (c : UInt8) (h : c = 40 ∨ c = 41 ∨ c = 42) : dig1 c.toNat = none := by
 rcases h with rfl | rfl | rfl <;> rfl
theorem plain_is (c : UInt8) (h1 : ¬ (c = 41 ∨ c = 42)) (h2 : ¬ (c = 40 ∨ c.toNat < 32 ∨ 126 < c.toNat)) (h3 : c ≠ 92) : plainP c = true := by
 have h : ∀ n : Fin 256, ¬ (UInt8.ofNat n.val = 41 ∨ UInt8.ofNat n.val = 42) → ¬ (UInt8.ofNat n.val = 40 ∨ (UInt8.ofNat n.val).toNat < 32 ∨ 126 < (UInt8.ofNat n.val).toNat) → UInt8.ofNat n.val ≠ 92 → plainP (UInt8.ofNat n.val) = true := by decide +kernel
 have := h ⟨c.toNat, c.toNat_lt⟩
 simp only [UInt8.ofNat_toNat] at this
 exact this h1 h2 h3
theorem plain_no (c : UInt8) (h2 : c.toNat < 32 ∨ 126 < c.toNat) : plainP c = false := by
 have h : ∀ n : Fin 256, ((UInt8.ofNat n.val).toNat < 32 ∨ 126 < (UInt8.ofNat n.val).toNat) → plainP (UInt8.ofNat n.val) = false := by decide +kernel
 have := h ⟨c.toNat, c.toNat_lt⟩
 simp only [UInt8.ofNat_toNat] at this
 exact this h2
/-- What the program makes of the same text. -/
def valQ (U : Txt) : Option (Txt × Txt) := match untP [40, 41, 42] U with
 | none => none
 | some m => match plnV (U.take m).length (U.take m) with
  | none => none
  | some v => if begP [40] (U.drop m) = true then none else some (v, U.drop m)
theorem unt_out (c : UInt8) (l : Txt) (h1 : ¬ (c = 41 ∨ c = 42)) (h2 : c ≠ 40) : untP [40, 41, 42] (c :: l) = (untP [40, 41, 42] l).map (· + 1) := by
 conv => lhs; unfold untP
 rw [if_neg]
 intro h
 simp at h
 rcases h with h | h | h
 ·exact h2 h
 ·exact h1 (.inl h)
 ·exact h1 (.inr h)
theorem unt_in (c : UInt8) (l : Txt) (h : c = 40 ∨ c = 41 ∨ c = 42) : untP [40, 41, 42] (c :: l) = some 0 := by
 unfold untP
 rw [if_pos]
 rcases h with rfl | rfl | rfl <;> decide
theorem valR_is : ∀ (n : Nat) (U : Txt), U.length ≤ n → valR U.length U = valQ U
 | _, [], _ => by simp [valR, valQ, untP]
 | 0, c :: l, h => by simp at h
 | n + 1, c :: l, h => by
  simp only [List.length_cons] at h
  simp only [List.length_cons]
  unfold valR
  split
  ·rename_i hc
   unfold valQ
   rw [unt_in c l (.inr hc)]
   simp only [List.take_zero, List.length_nil, List.drop_zero]
   have hb : begP [40] (c :: l) = false := by
    unfold begP
    rcases hc with rfl | rfl <;> simp
   simp [plnV, hb]
  ·rename_i hc
   split
   ·rename_i h2
    by_cases h40 : c = 40
    ·subst h40
     unfold valQ
     rw [unt_in 40 l (.inl rfl)]
     simp [plnV, begP]
    ·have hp := plain_no c (by rcases h2 with h2 | h2 | h2; exact absurd h2 h40; exact .inl h2; exact .inr h2)
     unfold valQ
     rw [unt_out c l hc h40]
     cases untP [40, 41, 42] l with
     | none => rfl
     | some m =>
      simp only [Option.map_some, List.take_succ_cons, List.length_cons]
      have h92 : c ≠ 92 := by rintro rfl; simp at h2
      rw [plnV_cons, if_neg h92, if_neg (by rw [hp]; simp)]
   ·rename_i h2
    have h40 : c ≠ 40 := fun h => h2 (.inl h)
    split
    ·rename_i h92
     subst h92
     unfold valQ
     rw [unt_out 92 l hc h40]
     match l, h with
     | [], _ => rfl
     | [a], _ =>
      by_cases ha : a = 40 ∨ a = 41 ∨ a = 42
      ·rw [unt_in a [] ha]
       simp [plnV]
      ·rw [unt_out a [] (fun h => ha (.inr h)) (fun h => ha (.inl h))]
       simp [untP]
     | a :: b :: r, h =>
      simp only [List.length_cons] at h
      have IH := valR_is n r (by omega)
      dsimp only
      by_cases ha : a = 40 ∨ a = 41 ∨ a = 42
      ·rw [unt_in a _ ha, dig_sign a ha]
       simp [plnV]
      ·rw [unt_out a _ (fun h => ha (.inr h)) (fun h => ha (.inl h))]
       by_cases hb : b = 40 ∨ b = 41 ∨ b = 42
       ·rw [unt_in b _ hb, dig_sign b hb]
        cases dig1 a.toNat <;> simp [plnV]
       ·rw [unt_out b _ (fun h => hb (.inr h)) (fun h => hb (.inl h)), valR_fuel (a :: b :: r).length r (by simp only [List.length_cons]; omega), IH]
        unfold valQ
        cases untP [40, 41, 42] r with
        | none => cases dig1 a.toNat <;> cases dig1 b.toNat <;> rfl
        | some m =>
         simp only [Option.map_some, List.take_succ_cons, List.length_cons, List.drop_succ_cons]
         rw [plnV_cons, if_pos rfl, if_pos (by simp), show (a :: b :: r.take m).take 2 = [a, b] from rfl, hexN_pair, show (a :: b :: r.take m).drop 2 = r.take m from rfl, plnV_fuel ((r.take m).length + 2) (r.take m) (by omega)]
         cases dig1 a.toNat with
         | none => rfl
         | some x =>
          cases dig1 b.toNat with
          | none => rfl
          | some y =>
           dsimp only [Option.bind_some]
           cases plnV (r.take m).length (r.take m) with
           | none => rfl
           | some v =>
            simp only [Option.map_some]
            split <;> rfl
    ·rename_i h92
     have hp := plain_is c hc h2 h92
     have IH := valR_is n l (by omega)
     rw [IH]
     unfold valQ
     rw [unt_out c l hc h40]
     cases untP [40, 41, 42] l with
     | none => rfl
     | some m =>
      simp only [Option.map_some, List.take_succ_cons, List.length_cons, List.drop_succ_cons]
      rw [plnV_cons, if_neg h92, if_pos hp]
      cases plnV (l.take m).length (l.take m) with
      | none => rfl
      | some v =>
       simp only [Option.map_some]
       split <;> rfl
end Go.Proofs.YtbfebljahjmjfaaGreatDoor
/- filter: the document's reading of a text, as words. -/
namespace Go.Proofs.YtbfebljahjmjfaaGreatDoor
open Go.RowKit Go.Shelf
set_option linter.unusedVariables false
set_option linter.unusedSimpArgs false
set_option maxRecDepth 100000

/-- Which sign a text begins with; 0: none. -/
def sgnR (U : Txt) : Nat := if begP [38] U = true then 1 else if begP [124] U = true then 2 else if begP [33] U = true then 3 else 0
/-- A name, '=' and what is behind it: a kind, a name, a value, what is left. -/
def leafR (U : Txt) : Option (Nat × Txt × Txt × Txt) := match untP [61] U with
 | none => none
 | some n => match valR (U.drop (n + 1)).length (U.drop (n + 1)) with
  | none => none
  | some (v, R) => if begP [42] R = true then some (if v = [] then 6 else 5, smallL (U.take n), v, R.drop 1) else some (4, smallL (U.take n), v, R)
/-- A filter, shut. -/
def shutR (t : FV) (R : Txt) : Option (FV × Txt) := if begP [41] R = true ∧ aloneF t = true then some (t, R.drop 1) else none
mutual
/-- The filter that a text begins with, and what is left. -/
def oneR : Nat → Nat → Txt → Option (FV × Txt)
 | 0, _, _ => none
 | f + 1, d, T => if d ≤ 16 ∧ 2 ≤ T.length ∧ begP [40] T = true then (if sgnR (T.drop 1) = 0 then (match leafR (T.drop 1) with
   | none => none
   | some (k, s, v, R) => shutR (.mk k [] s v) R) else (match manyR f d 0 (T.drop 2) with
   | none => none
   | some (l, R) => shutR (.mk (sgnR (T.drop 1) : Nat) l [] []) R)) else none
/-- Filters, one behind the other; m stand already. -/
def manyR : Nat → Nat → Nat → Txt → Option (List FV × Txt)
 | 0, _, _, _ => none
 | f + 1, d, m, T => if begP [40] T = true then (match oneR f (d + 1) T with
   | none => none
   | some (x, R) => if 200 < m then none else (match manyR f d (m + 1) R with
    | none => none
    | some (l, R2) => some (x :: l, R2))) else some ([], T)
end
/-- What a whole text says. -/
def parseR (T : Txt) : Option FV := match oneR (2 * T.length + 2) 1 T with
 | some (t, []) => if rightF t = true then some t else none
 | _ => none
theorem shutR_len {t x : FV} {R R2 : Txt} (h : shutR t R = some (x, R2)) : R2.length ≤ R.length ∧ x = t := by
 unfold shutR at h
 split at h
 ·injection h with h; injection h with h1 h2; subst h1 h2; exact ⟨by simp, rfl⟩
 ·cases h
theorem valR_len : ∀ (f : Nat) (T v R : Txt), valR f T = some (v, R) → R.length ≤ T.length
 | f, [], v, R, h => by cases f <;> simp [valR] at h
 | 0, c :: l, v, R, h => by simp [valR] at h
 | f + 1, c :: l, v, R, h => by
  unfold valR at h
  split at h
  ·injection h with h; injection h with h1 h2; subst h2; exact Nat.le_refl _
  ·split at h
   ·cases h
   ·split at h
    ·split at h
     ·split at h
      ·obtain ⟨p, hp, h⟩ := Option.map_eq_some_iff.1 h
       injection h with h1 h2
       subst h2
       have := valR_len f _ p.1 p.2 hp
       simp only [List.length_cons]
       omega
      ·cases h
     ·cases h
    ·obtain ⟨p, hp, h⟩ := Option.map_eq_some_iff.1 h
     injection h with h1 h2
     subst h2
     have := valR_len f _ p.1 p.2 hp
     simp only [List.length_cons]
     omega
theorem leafR_len {U s v R : Txt} {k : Nat} (h : leafR U = some (k, s, v, R)) : R.length ≤ U.length := by
 unfold leafR at h
 split at h
 ·cases h
 ·split at h
  ·cases h
  ·rename_i n hn v2 R2 hv
   have := valR_len _ _ _ _ hv
   simp only [List.length_drop] at this
   split at h <;> (injection h with h; injection h with h1 h; injection h with h2 h; injection h with h3 h; subst h; simp; omega)
mutual
theorem oneR_len : ∀ (f d : Nat) (T R : Txt) (t : FV), oneR f d T = some (t, R) → R.length + 1 ≤ T.length
 | 0, _, _, _, _, h => by simp [oneR] at h
 | f + 1, d, T, R, t, h => by
  unfold oneR at h
  split at h
  ·rename_i hc
   split at h
   ·split at h
    ·cases h
    ·rename_i hl
     have h1 := leafR_len hl
     have h2 := (shutR_len h).1
     simp only [List.length_drop] at h1
     omega
   ·split at h
    ·cases h
    ·rename_i hl
     have h1 := manyR_len f d 0 _ _ _ hl
     have h2 := (shutR_len h).1
     simp only [List.length_drop] at h1
     omega
  ·cases h
theorem manyR_len : ∀ (f d m : Nat) (T R : Txt) (l : List FV), manyR f d m T = some (l, R) → R.length ≤ T.length
 | 0, _, _, _, _, _, h => by simp [manyR] at h
 | f + 1, d, m, T, R, l, h => by
  unfold manyR at h
  split at h
  ·split at h
   ·cases h
   ·rename_i x R1 ho
    have h1 := oneR_len f (d + 1) T R1 x ho
    split at h
    ·cases h
    ·split at h
     ·cases h
     ·rename_i l2 R2 hm
      have h2 := manyR_len f d (m + 1) R1 R2 l2 hm
      injection h with h; injection h with h3 h4; subst h4
      omega
  ·injection h with h; injection h with h3 h4; subst h4; exact Nat.le_refl _
end
end Go.Proofs.YtbfebljahjmjfaaGreatDoor
/- filter: the document's reading of a text as words: enough fuel; a leaf is the program's. -/
namespace Go.Proofs.YtbfebljahjmjfaaGreatDoor
open Go.RowKit Go.Shelf
set_option linter.unusedVariables false
set_option linter.unusedSimpArgs false
set_option maxRecDepth 100000

theorem oneR_none (f d : Nat) (T : Txt) (h : T.length < 2) : oneR f d T = none := by
 cases f with
 | zero => rfl
 | succ f =>
  unfold oneR
  rw [if_neg (by omega)]
mutual
theorem oneR_fuel : ∀ (f g d : Nat) (T : Txt), 2 * T.length ≤ f → 2 * T.length ≤ g → oneR f d T = oneR g d T
 | 0, g, d, T, hf, hg => by rw [oneR_none 0 d T (by omega), oneR_none g d T (by omega)]
 | f + 1, 0, d, T, hf, hg => by rw [oneR_none (f + 1) d T (by omega), oneR_none 0 d T (by omega)]
 | f + 1, g + 1, d, T, hf, hg => by
  rcases Nat.lt_or_ge T.length 2 with h | h
  ·rw [oneR_none _ d T h, oneR_none _ d T h]
  ·unfold oneR
   rw [manyR_fuel f g d 0 (T.drop 2) (by simp; omega) (by simp; omega)]
theorem manyR_fuel : ∀ (f g d m : Nat) (T : Txt), 2 * T.length + 1 ≤ f → 2 * T.length + 1 ≤ g → manyR f d m T = manyR g d m T
 | 0, g, d, m, T, hf, hg => by omega
 | f + 1, 0, d, m, T, hf, hg => by omega
 | f + 1, g + 1, d, m, T, hf, hg => by
  unfold manyR
  rw [oneR_fuel f g (d + 1) T (by omega) (by omega)]
  split
  ·cases ho : oneR g (d + 1) T with
   | none => rfl
   | some p =>
    obtain ⟨x, R⟩ := p
    have h1 := oneR_len _ _ _ _ _ ho
    dsimp only
    rw [manyR_fuel f g d (m + 1) R (by omega) (by omega)]
  ·rfl
end
theorem beg_one (c : UInt8) : ∀ X : Txt, begP [c] X = true ↔ ∃ l, X = c :: l
 | [] => by simp [begP]
 | a :: l => by simp [begP]
theorem leaf_head {U : Txt} (h : sgnR U = 0) : (match leafR U with
   | none => none
   | some (k, s, v, R) => if begP [41] R = true then some ((k : Int), s, v, R.drop 1) else none) = (match headP U with
   | none => none
   | some (k, s, v, R) => if begP [41] R = true then some (k, smallL s, v, R.drop 1) else none) := by
 have h3 : begP [38] U = false ∧ begP [124] U = false ∧ begP [33] U = false := by
  unfold sgnR at h
  split at h
  ·cases h
  ·split at h
   ·cases h
   ·split at h
    ·cases h
    ·rename_i a b c
     exact ⟨by simpa using a, by simpa using b, by simpa using c⟩
 rw [headP_not h3.1 h3.2.1 h3.2.2]
 unfold leafR
 cases hn : untP [61] U with
 | none => rfl
 | some n =>
  dsimp only
  rw [List.drop_drop, valR_is _ _ (Nat.le_refl _)]
  unfold valQ
  generalize U.drop (n + 1) = W
  cases hm : untP [40, 41, 42] W with
  | none => rfl
  | some m =>
   dsimp only
   cases plnV (W.take m).length (W.take m) with
   | none => rfl
   | some v =>
    dsimp only
    generalize W.drop m = X
    by_cases h40 : begP [40] X = true
    ·obtain ⟨l, rfl⟩ := (beg_one 40 X).1 h40
     rw [if_pos h40]
     have e1 : begP [42] ((40 : UInt8) :: l) = false := by simp [begP]
     have e2 : begP [41] ((40 : UInt8) :: l) = false := by simp [begP]
     have e3 : behP [42] ((40 : UInt8) :: l) = 40 :: l := by simp [behP, e1]
     dsimp only
     rw [e3, e2]
     simp
    ·rw [if_neg h40]
     dsimp only
     by_cases h42 : begP [42] X = true
     ·have e3 : behP [42] X = X.drop 1 := by simp [behP, h42]
      rw [if_pos h42, if_pos h42, e3]
      dsimp only
      split
      ·split <;> rfl
      ·rfl
     ·have e3 : behP [42] X = X := by simp [behP, h42]
      rw [if_neg h42, if_neg h42, e3]
      rfl
end Go.Proofs.YtbfebljahjmjfaaGreatDoor
/- filter: what the program reads off a text the document reads. -/
namespace Go.Proofs.YtbfebljahjmjfaaGreatDoor
open Go.RowKit Go.Shelf
set_option linter.unusedVariables false
set_option linter.unusedSimpArgs false
set_option maxRecDepth 100000

theorem head_sgn {U : Txt} (h : ¬ sgnR U = 0) : headP U = some ((sgnR U : Int), [], [], U.drop 1) ∧ sgnR U ≤ 3 := by
 unfold headP
 revert h
 unfold sgnR
 split
 ·intro _; exact ⟨rfl, by decide⟩
 ·split
  ·intro _; exact ⟨rfl, by decide⟩
  ·split
   ·intro _; exact ⟨rfl, by decide⟩
   ·intro h; exact absurd rfl h
theorem sgn_no {U : Txt} (h : sgnR U = 0) : begP [38] U = false ∧ begP [124] U = false ∧ begP [33] U = false := by
 unfold sgnR at h
 split at h
 ·cases h
 ·split at h
  ·cases h
  ·split at h
   ·cases h
   ·rename_i a b c
    exact ⟨by simpa using a, by simpa using b, by simpa using c⟩
theorem head_leafk {U s v R : Txt} {k : Int} (h : sgnR U = 0) (hh : headP U = some (k, s, v, R)) : ¬ k ≤ 3 := by
 have h3 := sgn_no h
 rw [headP_not h3.1 h3.2.1 h3.2.2] at hh
 split at hh
 ·cases hh
 ·split at hh
  ·cases hh
  ·split at hh
   ·cases hh
   ·injection hh with hh
    injection hh with hh
    subst hh
    split
    ·split <;> decide
    ·decide
theorem leaf_to {U s v R : Txt} {k : Int} (h : sgnR U = 0) (hh : headP U = some (k, s, v, R)) (hR : begP [41] R = true) : ∃ (q : Nat) (X : Txt), leafR U = some (q, smallL s, v, X) ∧ (q : Int) = k ∧ begP [41] X = true ∧ X.drop 1 = R.drop 1 := by
 have e := leaf_head h
 rw [hh] at e
 dsimp only at e
 rw [if_pos hR] at e
 cases hl : leafR U with
 | none => rw [hl] at e; cases e
 | some p =>
  obtain ⟨q, s2, v2, X⟩ := p
  rw [hl] at e
  dsimp only at e
  split at e
  ·rename_i hX
   injection e with e; injection e with e1 e; injection e with e2 e; injection e with e3 e4
   subst e2 e3
   exact ⟨q, X, rfl, e1, hX, e4⟩
  ·cases e
theorem leaf_from {U s v X : Txt} {q : Nat} (h : sgnR U = 0) (hl : leafR U = some (q, s, v, X)) (hX : begP [41] X = true) : ∃ (z R : Txt), headP U = some ((q : Int), z, v, R) ∧ smallL z = s ∧ begP [41] R = true ∧ R.drop 1 = X.drop 1 := by
 have e := leaf_head h
 rw [hl] at e
 dsimp only at e
 rw [if_pos hX] at e
 cases hh : headP U with
 | none => rw [hh] at e; cases e
 | some p =>
  obtain ⟨k, z, v2, R⟩ := p
  rw [hh] at e
  dsimp only at e
  split at e
  ·rename_i hR
   injection e with e; injection e with e1 e; injection e with e2 e; injection e with e3 e4
   subst e1 e2 e3
   exact ⟨z, R, rfl, rfl, hR, e4.symm⟩
  ·cases e
theorem thru_up {d m n : Nat} {k : Int} {l : List FV} {s v : Txt} (h : thruF aloneF d m (.mk k l s v) = some n) : m < 200 ∧ d ≤ 16 ∧ thruL aloneF (d + 1) (m + 1) l = some n ∧ aloneF (.mk k l s v) = true := by
 unfold thruF at h
 split at h
 ·rename_i hc
  split at h
  ·cases h
  ·rename_i n2 hl
   split at h
   ·rename_i ha
    injection h with h
    subst h
    exact ⟨hc.1, hc.2, hl, ha⟩
   ·cases h
 ·cases h
theorem begP_two {T : Txt} (h : begP [40] T = true) (h2 : headP (T.drop 1) ≠ none) : 2 ≤ T.length := by
 obtain ⟨l, rfl⟩ := (beg_one 40 T).1 h
 cases l with
 | nil => exact absurd (by simp [headP, begP, untP]) h2
 | cons a b => simp
theorem alone_low2 : ∀ t : FV, aloneF (lowF t) = aloneF t
 | .mk k l s v => by
  simp only [lowF, aloneF_is, alone_low]
  rw [show (lowFL l).length = l.length by rw [lowFL_map, List.length_map]]
theorem shut_yes {t : FV} {R : Txt} (h : begP [41] R = true) (ha : aloneF t = true) : shutR t R = some (t, R.drop 1) := by
 unfold shutR
 rw [if_pos ⟨h, ha⟩]
mutual
theorem one_of_rd : ∀ (f d m : Nat) (T : Txt) (t : FV) (n : Nat) (R : Txt) (n2 : Nat), rdF f d m T = some (t, n, R) → thruF aloneF d m t = some n2 → n2 = n ∧ ∀ g, 2 * T.length ≤ g → oneR g d T = some (lowF t, R)
 | 0, d, m, T, t, n, R, n2, h, ht => by unfold rdF at h; cases h
 | f + 1, d, m, T, t, n, R, n2, h, ht => by
  unfold rdF at h
  split at h
  ·rename_i hc
   split at h
   ·rename_i h40
    split at h
    ·cases h
    ·rename_i k s v R1 hh
     have hl2 := begP_two h40 (by rw [hh]; simp)
     split at h
     ·cases h
     ·rename_i l n3 R2 hl
      split at h
      ·rename_i h41
       injection h with h; injection h with h1 h; injection h with h2 h3
       subst h1 h2 h3
       obtain ⟨hm, hd, hthr, hal⟩ := thru_up ht
       by_cases hs : sgnR (T.drop 1) = 0
       ·have hk := head_leafk hs hh
        rw [if_neg hk] at hl
        injection hl with hl; injection hl with e1 hl; injection hl with e2 e3
        subst e1 e2 e3
        obtain ⟨q, X, hlf, hq, hX, hdr⟩ := leaf_to hs hh h41
        have : thruL aloneF (d + 1) (m + 1) [] = some (m + 1) := by unfold thruL; rfl
        rw [this] at hthr
        injection hthr with hthr
        refine ⟨hthr.symm, fun g hg => ?_⟩
        cases g with
        | zero => omega
        | succ g =>
         unfold oneR
         rw [if_pos ⟨hc.2, hl2, h40⟩, if_pos hs, hlf]
         dsimp only
         have hal2 := alone_low2 (.mk k [] s v)
         rw [hal] at hal2
         rw [hq, show FV.mk k [] (smallL s) v = lowF (.mk k [] s v) by unfold lowF; simp [lowFL]]
         rw [shut_yes hX hal2, hdr]
       ·obtain ⟨hh2, h3⟩ := head_sgn hs
        rw [hh2] at hh
        injection hh with hh; injection hh with e1 hh; injection hh with e2 hh; injection hh with e3 e4
        subst e1 e2 e3 e4
        rw [if_pos (by omega)] at hl
        obtain ⟨e5, hmany⟩ := many_of_rd f d (m + 1) _ l n3 R2 n2 hl hthr
        refine ⟨e5, fun g hg => ?_⟩
        cases g with
        | zero => omega
        | succ g =>
         unfold oneR
         have hle := (thruL_le aloneF l _ _ _ hthr)
         have hle2 := hle.2 (by omega)
         rw [if_pos ⟨hc.2, hl2, h40⟩, if_neg hs, show T.drop 2 = (T.drop 1).drop 1 by rw [List.drop_drop], hmany g 0 (by simp; omega) (by omega)]
         dsimp only
         have hal2 := alone_low2 (.mk (sgnR (T.drop 1) : Int) l [] [])
         rw [hal] at hal2
         rw [show FV.mk (sgnR (T.drop 1) : Int) (lowFL l) [] [] = lowF (.mk (sgnR (T.drop 1) : Int) l [] []) by unfold lowF; rfl]
         rw [shut_yes h41 hal2]
      ·cases h
   ·cases h
  ·cases h
theorem many_of_rd : ∀ (f d m : Nat) (T : Txt) (l : List FV) (n : Nat) (R : Txt) (n2 : Nat), rdL f (d + 1) m T = some (l, n, R) → thruL aloneF (d + 1) m l = some n2 → n2 = n ∧ ∀ g k, 2 * T.length + 1 ≤ g → k + l.length ≤ 201 → manyR g d k T = some (lowFL l, R)
 | 0, d, m, T, l, n, R, n2, h, ht => by unfold rdL at h; cases h
 | f + 1, d, m, T, l, n, R, n2, h, ht => by
  unfold rdL at h
  split at h
  ·rename_i h40
   split at h
   ·cases h
   ·rename_i t n3 R1 ho
    split at h
    ·cases h
    ·rename_i r n4 R2 hm
     injection h with h; injection h with h1 h; injection h with h2 h3
     subst h1 h2 h3
     unfold thruL at ht
     split at ht
     ·cases ht
     ·rename_i n5 hto
      obtain ⟨e1, hone⟩ := one_of_rd f (d + 1) m T t n3 R1 n5 ho hto
      subst e1
      obtain ⟨e2, hmany⟩ := many_of_rd f d n5 R1 r n4 R2 n2 hm ht
      refine ⟨e2, fun g k hg hk => ?_⟩
      simp only [List.length_cons] at hk
      cases g with
      | zero => omega
      | succ g =>
       have hone2 := hone g (by omega)
       have hlen := oneR_len _ _ _ _ _ hone2
       unfold manyR
       rw [if_pos h40, hone2]
       dsimp only
       rw [if_neg (by omega), hmany g (k + 1) (by omega) (by omega)]
       simp [lowFL]
  ·rename_i h40
   injection h with h; injection h with h1 h; injection h with h2 h3
   subst h1 h2 h3
   unfold thruL at ht
   injection ht with ht
   refine ⟨ht.symm, fun g k hg hk => ?_⟩
   cases g with
   | zero => omega
   | succ g =>
    unfold manyR
    rw [if_neg h40]
    simp [lowFL]
end
end Go.Proofs.YtbfebljahjmjfaaGreatDoor
