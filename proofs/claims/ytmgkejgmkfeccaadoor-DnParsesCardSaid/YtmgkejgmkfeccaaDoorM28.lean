/- Texts of one proof, laid together: N56 N57. -/
import Derived.Test.YtmgkejgmkfeccaaDoorM20
import Derived.Test.YtmgkejgmkfeccaaDoorM27
/- dn: the document's Parse, as words: it is the program's. -/
namespace Go.Proofs.YtmgkejgmkfeccaaDoor
open Go.RowKit Go.Shelf
set_option linter.unusedVariables false
set_option linter.unusedSimpArgs false
set_option maxRecDepth 100000

/-- A byte of a Value: it, whether a backslash stands ahead, what stands behind. -/
def oneD : List UInt8 → Option (UInt8 × Bool × List UInt8)
  | [] => none
  | c :: r => if c = 92 then (behindL r).map fun x => (x.1, true, x.2) else if (plain1 c && !sign1 c.toNat) = true then some (c, false, r) else none
theorem oneD_lt {r r' : List UInt8} {x : UInt8} {t : Bool} (h : oneD r = some (x, t, r')) : r'.length < r.length := by
  cases r with
  | nil => cases h
  | cons c r =>
    by_cases h1 : c = 92
    · cases hb : behindL r with
      | none => simp [oneD, h1, hb] at h
      | some y =>
        obtain ⟨y, r2⟩ := y
        simp [oneD, h1, hb] at h
        obtain ⟨_, _, rfl⟩ := h
        have := behindL_lt hb
        simp
        omega
    · by_cases h2 : (plain1 c && !sign1 c.toNat) = true
      · simp only [oneD, if_neg h1, if_pos h2, Option.some.injEq, Prod.mk.injEq] at h
        obtain ⟨_, _, rfl⟩ := h
        simp
      · simp only [oneD, if_neg h1, if_neg h2] at h
        cases h
/-- A Value read up to its end, behind what is read of it: it, whether it ends with a blank, what stands behind. -/
def valD (rest acc : List UInt8) (bl : Bool) : Option (List UInt8 × Bool × List UInt8) :=
  match rest with
  | [] => some (acc, bl, [])
  | c :: r =>
    if c = 44 then some (acc, bl, c :: r)
    else match h : oneD (c :: r) with
      | none => none
      | some (x, t, r') => if (acc.isEmpty && (!t && (x == 32 || x == 35))) = true then none else valD r' (acc ++ [x]) (x == 32 && !t)
termination_by rest.length
decreasing_by exact oneD_lt h
theorem valD_nil (acc : List UInt8) (bl : Bool) : valD [] acc bl = some (acc, bl, []) := by rw [valD]
theorem valD_end (r acc : List UInt8) (bl : Bool) : valD (44 :: r) acc bl = some (acc, bl, 44 :: r) := by rw [valD]; simp
theorem valD_none {c : UInt8} {r acc : List UInt8} {bl : Bool} (h : c ≠ 44) (h2 : oneD (c :: r) = none) : valD (c :: r) acc bl = none := by
  rw [valD, if_neg h]
  split
  · rfl
  · rename_i h3; rw [h2] at h3; cases h3
theorem valD_no {c x : UInt8} {r r' acc : List UInt8} {bl t : Bool} (h : c ≠ 44) (h2 : oneD (c :: r) = some (x, t, r')) (h3 : (acc.isEmpty && (!t && (x == 32 || x == 35))) = true) : valD (c :: r) acc bl = none := by
  rw [valD, if_neg h]
  split
  · rfl
  · rename_i h4
    rw [h2] at h4
    injection h4 with h4
    injection h4 with h5 h6
    injection h6 with h6 h7
    subst h5 h6 h7
    rw [if_pos h3]
theorem valD_more {c x : UInt8} {r r' acc : List UInt8} {bl t : Bool} (h : c ≠ 44) (h2 : oneD (c :: r) = some (x, t, r')) (h3 : (acc.isEmpty && (!t && (x == 32 || x == 35))) = false) : valD (c :: r) acc bl = valD r' (acc ++ [x]) (x == 32 && !t) := by
  rw [valD, if_neg h]
  split
  · rename_i h4; rw [h2] at h4; cases h4
  · rename_i h4
    rw [h2] at h4
    injection h4 with h4
    injection h4 with h5 h6
    injection h6 with h6 h7
    subst h5 h6 h7
    rw [if_neg (by rw [h3]; decide)]
/-- What is left of a Value that does not end with a blank. -/
def finD (x : List UInt8 × Bool × List UInt8) : Option (List UInt8 × List UInt8) := if x.2.1 = true then none else some (x.1, x.2.2)
def tailD : Option (List UInt8) → List UInt8
  | none => []
  | some r => 44 :: r

theorem digit_not : ∀ n : Fin 256, (dig1 n.val).isSome = true → n.val ≠ 44 ∧ n.val ≠ 92 := by decide +kernel
theorem u8_ne {c : UInt8} {n : Nat} (h : c.toNat ≠ n) (hn : n < 256) : c ≠ UInt8.ofNat n := fun e => h (by rw [e, UInt8.toNat_ofNat', Nat.mod_eq_of_lt (by omega)])
theorem hexN_pair (y z : UInt8) : hexN [y, z] = (dig1 y.toNat).bind fun a => (dig1 z.toNat).map fun b => 16 * a + b := by
  unfold hexN
  simp only [List.foldl_cons, List.foldl_nil, Option.bind_some]
  cases dig1 y.toNat <;> simp
theorem behind_pair {y z : UInt8} {r : List UInt8} (h : mark6 y.toNat = 0) : behindL (y :: z :: r) = (hexN [y, z]).map fun N => (UInt8.ofNat N, r) := by simp [behindL, h]
theorem behind_one {y : UInt8} (h : mark6 y.toNat = 0) : behindL [y] = none := by simp [behindL, h]

theorem valD_cut : ∀ (m : Nat) (r acc : List UInt8) (bl : Bool) (n p : Nat), r.length ≤ m → p + (cutL 44 r).1.length = n → (p = 0 ↔ acc = []) →
    (valD r acc bl).bind finD = if ((cutL 44 r).1.isEmpty && bl) = true then none else (valL n (cutL 44 r).1).map fun v => (acc ++ v, tailD (cutL 44 r).2)
  | m, [], acc, bl, n, p, _, _, _ => by
    rw [valD_nil, show cutL 44 ([] : List UInt8) = ([], none) from rfl]
    cases bl <;> simp [finD, valL, tailD]
  | 0, c :: r, acc, bl, n, p, h, _, _ => by simp at h
  | m + 1, c :: r, acc, bl, n, p, hm, hn, hp => by
    by_cases h44 : c = 44
    · subst h44
      rw [valD_end, cutL_at]
      cases bl <;> simp [finD, valL, tailD]
    · by_cases h92 : c = 92
      · subst h92
        cases r with
        | nil =>
          rw [valD_none (by decide) (by simp [oneD, behindL]), cutL_one 44 92 (by decide)]
          rw [valL_bs_none (by simp [behindL])]
          simp
        | cons y r =>
          rw [cutL_bs 44 y r (by decide)] at hn ⊢
          simp only [List.length_cons] at hn hm
          by_cases h0 : mark6 y.toNat = 0
          · cases r with
            | nil =>
              rw [valD_none (by decide) (by simp [oneD, behind_one h0])]
              rw [show cutL 44 ([] : List UInt8) = ([], none) from rfl]
              rw [valL_bs_none (behind_one h0)]
              simp
            | cons z r =>
              cases hx : hexN [y, z] with
              | none =>
                rw [valD_none (by decide) (by simp [oneD, behind_pair h0, hx])]
                have hb : behindL (y :: (cutL 44 (z :: r)).1) = none := by
                  by_cases hz : z = 44
                  · subst hz
                    rw [cutL_at, behind_one h0]
                  · cases r with
                    | nil => rw [cutL_one 44 z hz, behind_pair h0, hx]; rfl
                    | cons e r =>
                      by_cases hz2 : z = 92
                      · subst hz2
                        rw [cutL_bs 44 e r (by decide), behind_pair h0, hx]
                        rfl
                      · rw [cutL_more 44 z _ hz hz2, behind_pair h0, hx]
                        rfl
                rw [valL_bs_none hb]
                simp
              | some N =>
                have hz : z ≠ 44 ∧ z ≠ 92 := by
                  rw [hexN_pair] at hx
                  have hs : (dig1 z.toNat).isSome = true := by
                    cases h1 : dig1 y.toNat with
                    | none => rw [h1] at hx; simp at hx
                    | some a =>
                      cases h2 : dig1 z.toNat with
                      | none => rw [h1, h2] at hx; simp at hx
                      | some b => rfl
                  have := digit_not ⟨z.toNat, z.toNat_lt⟩ hs
                  exact ⟨u8_ne this.1 (by decide), u8_ne this.2 (by decide)⟩
                rw [cutL_more 44 z r hz.1 hz.2] at hn ⊢
                have hone : oneD (92 :: y :: z :: r) = some (UInt8.ofNat N, true, r) := by simp [oneD, behind_pair h0, hx]
                rw [valD_more (by decide) hone (by simp)]
                simp only [List.length_cons] at hn hm
                rw [valD_cut m r _ _ n (p + 3) (by omega) (by omega) (by simp)]
                have hb : behindL (y :: z :: (cutL 44 r).1) = some (UInt8.ofNat N, (cutL 44 r).1) := by rw [behind_pair h0, hx]; rfl
                rw [valL_bs_some hb]
                simp only [Bool.not_true, Bool.and_false, Bool.false_eq_true, if_false, List.isEmpty_cons, Bool.false_and]
                cases valL n (cutL 44 r).1 <;> simp
          · have hone : oneD (92 :: y :: r) = some (y, true, r) := by simp [oneD, behind_mark r h0]
            rw [valD_more (by decide) hone (by simp)]
            rw [valD_cut m r _ _ n (p + 2) (by omega) (by omega) (by simp)]
            rw [valL_bs_some (behind_mark _ h0)]
            simp only [Bool.not_true, Bool.and_false, Bool.false_eq_true, if_false, List.isEmpty_cons, Bool.false_and]
            cases valL n (cutL 44 r).1 <;> simp
      · rw [cutL_more 44 c r h44 h92] at hn ⊢
        simp only [List.length_cons] at hn hm
        have hk : n - ((cutL 44 r).1.length + 1) = p := by omega
        have hask := ask_ref c p n (by omega)
        simp only [List.isEmpty_cons, Bool.false_and, Bool.false_eq_true, if_false]
        by_cases hps : (plain1 c && !sign1 c.toNat) = true
        · have hone : oneD (c :: r) = some (c, false, r) := by simp [oneD, h92, hps]
          simp only [Bool.and_eq_true, Bool.not_eq_true'] at hps
          rw [hps.2] at hask
          by_cases hf : p = 0 ∧ (c = 32 ∨ c = 35)
          · rw [valD_no h44 hone (by have := hp.1 hf.1; subst this; simpa using hf.2)]
            rw [valL_no h92 (by rw [hk, hask]; obtain ⟨h1, h2⟩ := hf; rcases h2 with h2 | h2 <;> simp [h1, h2])]
            simp
          · have hfb : (decide (p = 0) && (decide (c = 32) || decide (c = 35))) = false := by
              by_cases h1 : p = 0
              · have h2 : ¬ c = 32 := fun e => hf ⟨h1, .inl e⟩
                have h3 : ¬ c = 35 := fun e => hf ⟨h1, .inr e⟩
                simp [h1, h2, h3]
              · simp [h1]
            rw [hfb] at hask
            have hac : (acc.isEmpty && (!false && (c == 32 || c == 35))) = false := by
              by_cases h1 : p = 0
              · have h2 : ¬ c = 32 := fun e => hf ⟨h1, .inl e⟩
                have h3 : ¬ c = 35 := fun e => hf ⟨h1, .inr e⟩
                simp [h2, h3]
              · have h2 : acc ≠ [] := fun e => h1 (hp.2 e)
                cases acc with
                | nil => exact absurd rfl h2
                | cons a l => rfl
            rw [valD_more h44 hone hac, valD_cut m r _ _ n (p + 1) (by omega) (by omega) (by simp)]
            by_cases hl : p + 1 = n ∧ c = 32
            · have ht : (cutL 44 r).1 = [] := List.length_eq_zero_iff.1 (by omega)
              rw [valL_no h92 (by rw [hk, hask]; simp [hl.1, hl.2])]
              rw [ht, hl.2]
              simp
            · have hlb : (decide (p + 1 = n) && decide (c = 32)) = false := by
                by_cases h1 : p + 1 = n
                · have h2 : ¬ c = 32 := fun e => hl ⟨h1, e⟩
                  simp [h2]
                · simp [h1]
              rw [valL_yes h92 (by rw [hk, hask, hlb, hps.1]; rfl)]
              have he : ((cutL 44 r).1.isEmpty && (c == 32 && !false)) = false := by
                by_cases h1 : p + 1 = n
                · have h2 : ¬ c = 32 := fun e => hl ⟨h1, e⟩
                  simp [h2]
                · have h2 : (cutL 44 r).1 ≠ [] := fun e => h1 (by rw [e] at hn; simp at hn; omega)
                  cases h3 : (cutL 44 r).1 with
                  | nil => exact absurd h3 h2
                  | cons a l => rfl
              rw [he]
              cases valL n (cutL 44 r).1 <;> simp
        · have hone : oneD (c :: r) = none := by simp only [oneD, if_neg h92, if_neg hps]
          rw [valD_none h44 hone]
          have hno : (plain1 c && !ask6 (mark6 c.toNat) (plc6 (n - ((cutL 44 r).1.length + 1)) n)) = false := by
            rw [hk, hask]
            cases h1 : plain1 c with
            | false => rfl
            | true =>
              cases h2 : sign1 c.toNat with
              | false => rw [h1, h2] at hps; exact absurd rfl hps
              | true => rfl
          rw [valL_no h92 hno]
          rfl
end Go.Proofs.YtmgkejgmkfeccaaDoor
/- dn: the document's parts and Parse, as words: they are the program's. -/
namespace Go.Proofs.YtmgkejgmkfeccaaDoor
open Go.RowKit Go.Shelf
set_option linter.unusedVariables false
set_option linter.unusedSimpArgs false
set_option maxRecDepth 100000

/-- What stands ahead of the first =, and behind it, if there is one. -/
def eqD : List UInt8 → List UInt8 × Option (List UInt8)
  | [] => ([], none)
  | c :: r => if c = 61 then ([], some r) else (c :: (eqD r).1, (eqD r).2)
theorem eqD_at (r : List UInt8) : eqD (61 :: r) = ([], some r) := by simp [eqD]
theorem eqD_more {c : UInt8} {r : List UInt8} (h : c ≠ 61) : eqD (c :: r) = (c :: (eqD r).1, (eqD r).2) := by simp [eqD, h]
theorem eqD_none : ∀ xs : List UInt8, (eqD xs).2 = none → 61 ∉ xs
  | [], _ => by simp
  | c :: r, h => by
    by_cases hc : c = 61
    · subst hc; rw [eqD_at] at h; cases h
    · rw [eqD_more hc] at h
      have ih := eqD_none r h
      simp only [List.mem_cons, not_or]
      exact ⟨fun e => hc e.symm, ih⟩
theorem eqD_some : ∀ (xs r : List UInt8), (eqD xs).2 = some r → xs = (eqD xs).1 ++ 61 :: r ∧ 61 ∉ (eqD xs).1
  | [], r, h => by cases h
  | c :: xs, r, h => by
    by_cases hc : c = 61
    · subst hc; rw [eqD_at] at h ⊢; injection h with h; subst h; simp
    · rw [eqD_more hc] at h ⊢
      obtain ⟨h1, h2⟩ := eqD_some xs r h
      refine ⟨by simp only [List.cons_append]; rw [← h1], ?_⟩
      simp only [List.mem_cons, not_or]
      exact ⟨fun e => hc e.symm, h2⟩
theorem valD_len : ∀ (m : Nat) (r acc : List UInt8) (bl : Bool) (v r2 : List UInt8) (b2 : Bool), r.length ≤ m → valD r acc bl = some (v, b2, r2) → r2.length ≤ r.length
  | m, [], acc, bl, v, r2, b2, _, h => by
    rw [valD_nil] at h
    simp only [Option.some.injEq, Prod.mk.injEq] at h
    rw [← h.2.2]
    exact Nat.le_refl _
  | 0, c :: r, acc, bl, v, r2, b2, hm, h => by simp at hm
  | m + 1, c :: r, acc, bl, v, r2, b2, hm, h => by
    by_cases h44 : c = 44
    · subst h44
      rw [valD_end] at h
      simp only [Option.some.injEq, Prod.mk.injEq] at h
      rw [← h.2.2]
      exact Nat.le_refl _
    · cases ho : oneD (c :: r) with
      | none => rw [valD_none h44 ho] at h; cases h
      | some y =>
        obtain ⟨x, t, r'⟩ := y
        have hlt := oneD_lt ho
        cases ha : (acc.isEmpty && (!t && (x == 32 || x == 35))) with
        | true => rw [valD_no h44 ho ha] at h; cases h
        | false =>
          rw [valD_more h44 ho ha] at h
          have := valD_len m r' _ _ v r2 b2 (by simp only [List.length_cons] at hm hlt; omega) h
          omega
/-- A part of a name, and what stands behind it. -/
def partD (rest : List UInt8) : Option (Part6 × List UInt8) :=
  match (eqD rest).2 with
  | none => none
  | some r1 =>
    if nameT (eqD rest).1 = true then
      match valD r1 [] false with
      | none => none
      | some (v, bl, r2) => if (!bl && (decide (1 ≤ v.length) && decide (v.length ≤ 200))) = true then some ((smallL (eqD rest).1, v), r2) else none
    else none
theorem partD_noeq {rest : List UInt8} (h : (eqD rest).2 = none) : partD rest = none := by unfold partD; rw [h]
theorem partD_type {rest : List UInt8} (h : nameT (eqD rest).1 = false) : partD rest = none := by
  unfold partD
  cases (eqD rest).2 with
  | none => rfl
  | some r1 => simp [h]
theorem partD_val {rest r1 : List UInt8} (h : (eqD rest).2 = some r1) (h3 : valD r1 [] false = none) : partD rest = none := by
  unfold partD
  rw [h]
  simp [h3]
theorem partD_is {rest r1 v r2 : List UInt8} {bl : Bool} (h : (eqD rest).2 = some r1) (h2 : nameT (eqD rest).1 = true) (h3 : valD r1 [] false = some (v, bl, r2)) : partD rest = if (!bl && (decide (1 ≤ v.length) && decide (v.length ≤ 200))) = true then some ((smallL (eqD rest).1, v), r2) else none := by
  unfold partD
  rw [h]
  simp [h2, h3]
theorem partD_lt {rest r : List UInt8} {p : Part6} (h : partD rest = some (p, r)) : r.length < rest.length := by
  cases he : (eqD rest).2 with
  | none => rw [partD_noeq he] at h; cases h
  | some r1 =>
    cases ht : nameT (eqD rest).1 with
    | false => rw [partD_type ht] at h; cases h
    | true =>
      cases hv : valD r1 [] false with
      | none => rw [partD_val he hv] at h; cases h
      | some y =>
        obtain ⟨v, bl, r2⟩ := y
        rw [partD_is he ht hv] at h
        have h1 := valD_len r1.length r1 [] false v r2 bl (Nat.le_refl _) hv
        have h2 := congrArg List.length (eqD_some rest r1 he).1
        simp at h2
        split at h
        · simp only [Option.some.injEq, Prod.mk.injEq] at h
          rw [← h.2]
          omega
        · cases h
/-- The parts of what is left of a text, behind those that are read. -/
def nameD (rest : List UInt8) (acc : List Part6) : Option (List Part6) :=
  match h : partD rest with
  | none => none
  | some (p, r) =>
    if 16 ≤ acc.length then none
    else match h2 : r with
      | [] => some (acc ++ [p])
      | _ :: r2 => nameD r2 (acc ++ [p])
termination_by rest.length
decreasing_by
  have := partD_lt h
  simp at this
  omega
theorem nameD_none {rest : List UInt8} {acc : List Part6} (h : partD rest = none) : nameD rest acc = none := by
  rw [nameD]
  split
  · rfl
  · rename_i h2; rw [h] at h2; cases h2
theorem nameD_full {rest : List UInt8} {acc : List Part6} (h : 16 ≤ acc.length) : nameD rest acc = none := by
  rw [nameD]
  split
  · rfl
  · rw [if_pos h]
theorem nameD_end {rest : List UInt8} {acc : List Part6} {p : Part6} (h : partD rest = some (p, [])) (h2 : acc.length < 16) : nameD rest acc = some (acc ++ [p]) := by
  rw [nameD]
  split
  · rename_i h3; rw [h] at h3; cases h3
  · rename_i h3
    rw [h] at h3
    simp only [Option.some.injEq, Prod.mk.injEq] at h3
    obtain ⟨rfl, rfl⟩ := h3
    rw [if_neg (by omega)]
theorem nameD_more {rest r2 : List UInt8} {acc : List Part6} {p : Part6} {c : UInt8} (h : partD rest = some (p, c :: r2)) (h2 : acc.length < 16) : nameD rest acc = nameD r2 (acc ++ [p]) := by
  rw [nameD]
  split
  · rename_i h3; rw [h] at h3; cases h3
  · rename_i h3
    rw [h] at h3
    simp only [Option.some.injEq, Prod.mk.injEq] at h3
    obtain ⟨rfl, rfl⟩ := h3
    rw [if_neg (by omega)]

theorem letr_low (c : UInt8) : letr1 (small1 c) = letr1 c := by
  have h := small1_nat c
  unfold letr1
  rw [h, Bool.eq_iff_iff]
  split <;> simp <;> omega
theorem nam_low (c : UInt8) : nam1 (small1 c) = nam1 c := by
  have h := small1_nat c
  unfold nam1
  rw [letr_low, h, Bool.eq_iff_iff]
  unfold letr1
  split <;> simp <;> omega
theorem nameT_low (s : List UInt8) : nameT (smallL s) = nameT s := by
  have h1 : (smallL s).all nam1 = s.all nam1 := by
    unfold smallL
    rw [List.all_map]
    congr 1
    funext c
    exact nam_low c
  unfold nameT
  rw [h1, smallL_len]
  cases s with
  | nil => rfl
  | cons c r =>
    have h2 : (smallL (c :: r)).head? = some (small1 c) := rfl
    rw [h2]
    simp only [Option.map_some, Option.getD_some, List.head?_cons, letr_low]
theorem type_low (s : List UInt8) : typeOk (smallL s) = nameT s := by
  rw [type_name, nameT_low, smallL_idem]
  simp
theorem nameT_in {s : List UInt8} (h : nameT s = true) : ∀ c ∈ s, c ≠ 61 ∧ c ≠ 92 := by
  intro c hc
  unfold nameT at h
  simp only [Bool.and_eq_true, List.all_eq_true] at h
  have h1 := h.2.2.2 c hc
  exact ⟨fun e => by rw [e] at h1; exact absurd h1 (by decide), fun e => by rw [e] at h1; exact absurd h1 (by decide)⟩
theorem cut_plain : ∀ (s r : List UInt8), (∀ c ∈ s, c ≠ 61 ∧ c ≠ 92) → cutL 61 (s ++ 61 :: r) = (s, some r)
  | [], r, _ => cutL_at 61 r
  | c :: s, r, h => by
    have h1 := h c (by simp)
    rw [List.cons_append, cutL_more 61 c _ h1.1 h1.2, cut_plain s r (fun d hd => h d (by simp [hd]))]
/-- Where a backslash stands ahead of the first =, the program's Type has it, too. -/
theorem cut_slash : ∀ (s r : List UInt8), 61 ∉ s → 92 ∈ s → 92 ∈ (cutL 61 (s ++ r)).1
  | [], r, _, h => by simp at h
  | c :: s, r, h, h2 => by
    simp only [List.mem_cons, not_or] at h
    have hc : c ≠ 61 := fun e => h.1 e.symm
    by_cases h92 : c = 92
    · subst h92
      cases hs : s ++ r with
      | nil => simp [hs, cutL_one 61 92 (by decide)]
      | cons e t => simp [hs, cutL_bs 61 e t (by decide)]
    · rw [List.cons_append, cutL_more 61 c _ hc h92]
      simp only [List.mem_cons] at h2 ⊢
      exact .inr (cut_slash s r h.2 (h2.resolve_left (fun e => h92 e.symm)))
theorem partOk_low (k v : List UInt8) : partOk (smallL k, v) = (nameT k && (decide (1 ≤ v.length) && decide (v.length ≤ 200))) := by
  unfold partOk
  rw [type_low]
theorem nameOk_snoc {acc : List Part6} (p : Part6) (h : nameOk acc = true) : nameOk (acc ++ [p]) = (decide (acc.length < 16) && partOk p) := by
  unfold nameOk at *
  simp only [Bool.and_eq_true, decide_eq_true_eq] at h
  rw [List.all_append, h.2, List.length_append, List.length_singleton, show decide (acc.length + 1 ≤ 16) = decide (acc.length < 16) from rfl]
  simp

theorem name_same : ∀ (m : Nat) (rest : List UInt8) (acc : List Part6), rest.length ≤ m → nameOk acc = true → nameD rest acc = nameL rest acc
  | m, rest, acc, hm, hok => by
    have hbad : nameT (cutL 61 rest).1 = false → nameL rest acc = none := fun h => by
      cases hc : (cutL 61 rest).2 with
      | none => exact nameL_noeq hc
      | some r1 =>
        cases hv : valL (cutL 44 r1).1.length (cutL 44 r1).1 with
        | none => exact nameL_noval hc hv
        | some v => exact nameL_bad hc hv (by rw [nameOk_snoc _ hok, partOk_low, h]; simp)
    cases he : (eqD rest).2 with
    | none =>
      have h61 := eqD_none rest he
      rw [nameD_none (partD_noeq he)]
      cases hc : (cutL 61 rest).2 with
      | none => exact (nameL_noeq hc).symm
      | some r1 =>
        exfalso
        apply h61
        rw [cutL_some 61 rest r1 hc]
        simp
    | some r1 =>
      obtain ⟨hr, h61⟩ := eqD_some rest r1 he
      cases ht : nameT (eqD rest).1 with
      | false =>
        rw [nameD_none (partD_type ht)]
        symm
        apply hbad
        by_cases h92 : 92 ∈ (eqD rest).1
        · have h3 := cut_slash _ (61 :: r1) h61 h92
          rw [← hr] at h3
          cases hn : nameT (cutL 61 rest).1 with
          | false => rfl
          | true => exact absurd rfl (nameT_in hn _ h3).2
        · have h3 := cut_plain (eqD rest).1 r1 (fun c hc => ⟨fun e => h61 (by rw [← e]; exact hc), fun e => h92 (by rw [← e]; exact hc)⟩)
          rw [← hr] at h3
          rw [h3]
          exact ht
      | true =>
        have hcut := cut_plain (eqD rest).1 r1 (nameT_in ht)
        rw [← hr] at hcut
        have hvc := valD_cut r1.length r1 [] false (cutL 44 r1).1.length 0 (Nat.le_refl _) (by omega) (by simp)
        simp only [Bool.and_false, Bool.false_eq_true, if_false, List.nil_append] at hvc
        cases hv : valL (cutL 44 r1).1.length (cutL 44 r1).1 with
        | none =>
          rw [nameL_noval (by rw [hcut]) hv]
          rw [hv] at hvc
          apply nameD_none
          cases hd : valD r1 [] false with
          | none => exact partD_val he hd
          | some y =>
            obtain ⟨v, bl, r2⟩ := y
            rw [hd] at hvc
            cases bl with
            | false => simp [finD] at hvc
            | true => rw [partD_is he ht hd]; simp
        | some v =>
          rw [hv] at hvc
          cases hd : valD r1 [] false with
          | none => rw [hd] at hvc; simp at hvc
          | some y =>
            obtain ⟨v', bl, r2⟩ := y
            rw [hd] at hvc
            cases bl with
            | true => simp [finD] at hvc
            | false =>
              simp only [finD, Option.bind_some, Bool.false_eq_true, if_false, Option.map_some, Option.some.injEq, Prod.mk.injEq] at hvc
              obtain ⟨rfl, rfl⟩ := hvc
              have hpd := partD_is he ht hd
              have hno := nameOk_snoc (smallL (eqD rest).1, v') hok
              rw [partOk_low, ht] at hno
              cases hl : (decide (1 ≤ v'.length) && decide (v'.length ≤ 200)) with
              | false =>
                rw [hl] at hpd hno
                rw [nameD_none (by rw [hpd]; simp)]
                exact (nameL_bad (by rw [hcut]) hv (by rw [hcut, hno]; simp)).symm
              | true =>
                rw [hl] at hpd hno
                simp only [Bool.not_false, Bool.and_true, if_true] at hpd hno
                by_cases h16 : acc.length < 16
                · have hno2 : nameOk (acc ++ [(smallL (eqD rest).1, v')]) = true := by rw [hno]; simpa using h16
                  cases ht2 : (cutL 44 r1).2 with
                  | none =>
                    rw [ht2] at hpd
                    rw [nameD_end hpd h16]
                    have := nameL_end (rest := rest) (r1 := r1) (v := v') (acc := acc) (by rw [hcut]) hv (by rw [hcut]; exact hno2) ht2
                    rw [this, hcut]
                  | some r2 =>
                    rw [ht2] at hpd
                    rw [nameD_more hpd h16]
                    have := nameL_more (rest := rest) (r1 := r1) (v := v') (acc := acc) (by rw [hcut]) hv (by rw [hcut]; exact hno2) ht2
                    rw [this, hcut]
                    have hlt := partD_lt hpd
                    simp only [tailD, List.length_cons] at hlt
                    cases m with
                    | zero => omega
                    | succ m => exact name_same m r2 _ (by omega) hno2
                · rw [nameD_full (by omega)]
                  exact (nameL_bad (by rw [hcut]) hv (by rw [hcut, hno]; simpa using h16)).symm
/-- The name of a text, as the document says it. -/
def parseD (T : List UInt8) : Option (List Part6) := if T = [] then some [] else nameD T []
theorem parse_same (T : List UInt8) : parseD T = parseL T := by
  unfold parseD parseL
  rw [name_same T.length T [] (Nat.le_refl _) rfl]
end Go.Proofs.YtmgkejgmkfeccaaDoor
