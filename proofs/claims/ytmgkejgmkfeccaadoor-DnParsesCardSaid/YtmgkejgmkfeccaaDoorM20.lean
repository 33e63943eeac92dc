/- Texts of one proof, laid together: N35. -/
import Derived.Test.YtmgkejgmkfeccaaDoorM16
import Derived.Test.YtmgkejgmkfeccaaDoorM10
import Derived.Test.YtmgkejgmkfeccaaDoorM08
/- dn: the name of a name's text is that name: as words. -/
namespace Go.Proofs.YtmgkejgmkfeccaaDoor
open Go.RowKit Go.Shelf
set_option linter.unusedVariables false
set_option linter.unusedSimpArgs false
set_option maxRecDepth 100000

theorem cut_type (s r : List UInt8) (h : s.all typ1 = true) : cutL 61 (s ++ 61 :: r) = (s, some r) := by
  induction s with
  | nil => exact cutL_at 61 r
  | cons c s ih =>
    simp only [List.all_cons, Bool.and_eq_true] at h
    have h1 : c ≠ 61 := fun e => by rw [e] at h; exact absurd h.1 (by decide)
    have h2 : c ≠ 92 := fun e => by rw [e] at h; exact absurd h.1 (by decide)
    rw [List.cons_append, cutL_more 61 c _ h1 h2, ih h.2]
theorem hexd_facts : ∀ n : Fin 16, (hexd n.val ≠ 44 ∧ hexd n.val ≠ 92) ∧ mark6 (hexd n.val).toNat = 0 ∧ dig1 (hexd n.val).toNat = some n.val := by decide +kernel
theorem ask_zero (pc : Nat) : ask6 0 pc = false := by simp [ask6]
theorem mark_seven : ∀ n : Fin 256, (n.val = 44 ∨ n.val = 92) → mark6 n.val = 7 := by decide +kernel
theorem ask_seven (i n : Nat) : ask6 7 (plc6 i n) = true := by
  rcases plc_in i n with h | h | h | h <;> rw [h] <;> rfl
theorem esc_plain {i N : Nat} {c : UInt8} (h1 : plain1 c = true) (h2 : ask6 (mark6 c.toNat) (plc6 i N) = false) : c ≠ 44 ∧ c ≠ 92 := by
  constructor
  · intro e
    subst e
    rw [show mark6 (UInt8.toNat 44) = 7 from rfl, ask_seven] at h2
    cases h2
  · intro e
    subst e
    rw [show mark6 (UInt8.toNat 92) = 7 from rfl, ask_seven] at h2
    cases h2

/-- No comma is cut off within a Value's text. -/
theorem cut_text (N : Nat) (r : List UInt8) : ∀ (v : List UInt8) (i : Nat), cutL 44 (text6 N i v ++ r) = (text6 N i v ++ (cutL 44 r).1, (cutL 44 r).2)
  | [], i => by simp [text6]
  | c :: v, i => by
    have ih := cut_text N r v (i + 1)
    have hc : c.toNat < 256 := c.toNat_lt
    rw [text6]
    unfold esc6
    split
    · obtain ⟨⟨_, _⟩, _, _⟩ := hexd_facts ⟨c.toNat / 16, by omega⟩
      obtain ⟨⟨h3, h4⟩, _, _⟩ := hexd_facts ⟨c.toNat % 16, by omega⟩
      simp only [List.cons_append, List.nil_append]
      rw [cutL_bs 44 _ _ (by decide), cutL_more 44 _ _ h3 h4, ih]
    · rename_i hp
      split
      · simp only [List.cons_append, List.nil_append]
        rw [cutL_bs 44 _ _ (by decide), ih]
      · rename_i ha
        obtain ⟨h1, h2⟩ := esc_plain (i := i) (N := N) (by simpa using hp) (by simpa using ha)
        simp only [List.cons_append, List.nil_append]
        rw [cutL_more 44 c _ h1 h2, ih]

theorem text_pos (N i : Nat) (c : UInt8) (r : List UInt8) : 1 ≤ (text6 N i (c :: r)).length := by
  rw [text6, List.length_append]
  have := (esc_len i N c).1
  omega
theorem behind_hex (c : UInt8) (r : List UInt8) : behindL (hexd (c.toNat / 16) :: hexd (c.toNat % 16) :: r) = some (c, r) := by
  have hc : c.toNat < 256 := c.toNat_lt
  obtain ⟨_, h1, h2⟩ := hexd_facts ⟨c.toNat / 16, by omega⟩
  obtain ⟨_, _, h3⟩ := hexd_facts ⟨c.toNat % 16, by omega⟩
  simp only at h1 h2 h3
  have hh : hexN [hexd (c.toNat / 16), hexd (c.toNat % 16)] = some c.toNat := by
    unfold hexN
    simp only [List.foldl_cons, List.foldl_nil, Option.bind_some, h2, h3, Option.map_some]
    congr 1
    omega
  have hb : behindL (hexd (c.toNat / 16) :: hexd (c.toNat % 16) :: r) = (hexN [hexd (c.toNat / 16), hexd (c.toNat % 16)]).map fun N => (UInt8.ofNat N, r) := by
    simp [behindL, h1]
  rw [hb, hh, Option.map_some]
  congr 2
  apply UInt8.toNat_inj.1
  rw [UInt8.toNat_ofNat']
  omega
theorem behind_mark {c : UInt8} (r : List UInt8) (h : mark6 c.toNat ≠ 0) : behindL (c :: r) = some (c, r) := by
  simp [behindL, h]
theorem plc_same {i N k n : Nat} (h1 : k = 0 ↔ i = 0) (h2 : k + 1 = n ↔ i + 1 = N) : plc6 k n = plc6 i N := by
  unfold plc6
  by_cases hi : i = 0
  · have hk := h1.2 hi
    subst hi hk
    simp only [if_true]
    by_cases hN : N = 1
    · rw [if_pos hN, if_pos (by have := h2.2 (by omega); omega)]
    · rw [if_neg hN, if_neg (by intro e; exact hN (by have := h2.1 (by omega); omega))]
  · rw [if_neg hi, if_neg (fun e => hi (h1.1 e))]
    by_cases hN : i + 1 = N
    · rw [if_pos hN, if_pos (h2.2 hN)]
    · rw [if_neg hN, if_neg (fun e => hN (h2.1 e))]

theorem val_text (n N : Nat) : ∀ (r : List UInt8) (i k : Nat), i + r.length = N → k + (text6 N i r).length = n → (k = 0 ↔ i = 0) → valL n (text6 N i r) = some r
  | [], i, k, _, _, _ => by simp [text6, valL]
  | c :: r, i, k, hN, hn, h0 => by
    have hc : c.toNat < 256 := c.toNat_lt
    rw [List.length_cons] at hN
    rw [text6, List.length_append] at hn
    have ih := val_text n N r (i + 1) (k + (esc6 i N c).length) (by omega) (by omega) (by have := (esc_len i N c).1; omega)
    rw [text6]
    unfold esc6 at ih hn ⊢
    split
    · simp only [List.cons_append, List.nil_append]
      rw [valL_bs_some (behind_hex c _), ih]
      rfl
    · rename_i hp
      rw [if_neg hp] at hn
      split
      · rename_i ha
        simp only [List.cons_append, List.nil_append]
        rw [valL_bs_some (behind_mark _ (fun e => by rw [e, ask_zero] at ha; cases ha)), ih]
        rfl
      · rename_i ha
        rw [if_neg ha] at hn
        obtain ⟨h1, h2⟩ := esc_plain (i := i) (N := N) (by simpa using hp) (by simpa using ha)
        simp only [List.cons_append, List.nil_append]
        have hl : (k + 1 = n ↔ i + 1 = N) := by
          simp only [List.length_cons, List.length_nil] at hn
          cases r with
          | nil =>
            simp only [text6, List.length_nil] at hn hN
            omega
          | cons d r =>
            have := text_pos N (i + 1) d r
            simp only [List.length_cons] at hN
            omega
        have hk : n - ((text6 N (i + 1) r).length + 1) = k := by simp only [List.length_cons, List.length_nil] at hn; omega
        rw [valL_yes h2 (by rw [hk, plc_same h0 hl]; simp only [Bool.and_eq_true, Bool.not_eq_true']; exact ⟨by simpa using hp, by simpa using ha⟩), ih]
        rfl

theorem typeOk_small {s : List UInt8} (h : typeOk s = true) : smallL s = s := by
  rw [type_name] at h
  simp only [Bool.and_eq_true, beq_iff_eq] at h
  exact h.2
theorem typeOk_all {s : List UInt8} (h : typeOk s = true) : s.all typ1 = true := by
  unfold typeOk at h
  simp only [Bool.and_eq_true] at h
  exact h.2.2.2
theorem nameOk_take {a b : List Part6} (h : nameOk (a ++ b) = true) : nameOk a = true := by
  unfold nameOk at *
  simp only [Bool.and_eq_true, decide_eq_true_eq, List.all_append, List.length_append] at *
  exact ⟨by omega, h.2.1⟩
theorem nameOk_part {a : List Part6} {p : Part6} {b : List Part6} (h : nameOk (a ++ p :: b) = true) : partOk p = true := by
  unfold nameOk at h
  simp only [Bool.and_eq_true, decide_eq_true_eq, List.all_append, List.all_cons] at h
  exact h.2.2.1

theorem parse_parts : ∀ (r : List Part6) (p : Part6) (acc : List Part6), nameOk (acc ++ p :: r) = true → nameL (partT p ++ Lib.joinTail [44] (r.map partT)) acc = some (acc ++ p :: r)
  | [], p, acc, h => by
    have hp := nameOk_part h
    have ht : typeOk p.1 = true := by unfold partOk at hp; simp only [Bool.and_eq_true] at hp; exact hp.1
    have e1 : partT p ++ Lib.joinTail [44] (([] : List Part6).map partT) = p.1 ++ 61 :: text6 p.2.length 0 p.2 := by simp [partT, Lib.joinTail]
    rw [e1]
    have hcut := cut_type p.1 (text6 p.2.length 0 p.2) (typeOk_all ht)
    have hc2 := cut_text p.2.length [] p.2 0
    rw [List.append_nil] at hc2
    have e2 : (cutL 44 ([] : List UInt8)) = ([], none) := rfl
    rw [e2, List.append_nil] at hc2
    have hv := val_text (text6 p.2.length 0 p.2).length p.2.length p.2 0 0 (by omega) (by omega) (by simp)
    have hres := nameL_end (rest := p.1 ++ 61 :: text6 p.2.length 0 p.2) (r1 := text6 p.2.length 0 p.2) (v := p.2) (acc := acc) (by rw [hcut]) (by rw [hc2]; exact hv) (by rw [hcut, typeOk_small ht]; exact h) (by rw [hc2])
    rw [hres, hcut, typeOk_small ht]
  | q :: r, p, acc, h => by
    have hp := nameOk_part h
    have ht : typeOk p.1 = true := by unfold partOk at hp; simp only [Bool.and_eq_true] at hp; exact hp.1
    have e0 : acc ++ p :: q :: r = (acc ++ [p]) ++ q :: r := by simp
    have hacc : nameOk (acc ++ [p]) = true := by rw [e0] at h; exact nameOk_take h
    have ih := parse_parts r q (acc ++ [p]) (by rw [← e0]; exact h)
    have e1 : partT p ++ Lib.joinTail [44] ((q :: r).map partT) = p.1 ++ 61 :: (text6 p.2.length 0 p.2 ++ 44 :: (partT q ++ Lib.joinTail [44] (r.map partT))) := by
      simp [partT, Lib.joinTail]
    rw [e1]
    generalize partT q ++ Lib.joinTail [44] (r.map partT) = rest at *
    have hcut := cut_type p.1 (text6 p.2.length 0 p.2 ++ 44 :: rest) (typeOk_all ht)
    have hc2 := cut_text p.2.length (44 :: rest) p.2 0
    rw [cutL_at, List.append_nil] at hc2
    have hv := val_text (text6 p.2.length 0 p.2).length p.2.length p.2 0 0 (by omega) (by omega) (by simp)
    have hres := nameL_more (rest := p.1 ++ 61 :: (text6 p.2.length 0 p.2 ++ 44 :: rest)) (r1 := text6 p.2.length 0 p.2 ++ 44 :: rest) (r2 := rest) (v := p.2) (acc := acc) (by rw [hcut]) (by rw [hc2]; exact hv) (by rw [hcut, typeOk_small ht]; exact hacc) (by rw [hc2])
    rw [hres, hcut, typeOk_small ht, ih, e0]

theorem parse_text {d : List Part6} (h : nameOk d = true) : parseL (dnT d) = some d := by
  cases d with
  | nil => rfl
  | cons p r =>
    have hne : dnT (p :: r) ≠ [] := by
      unfold dnT
      rw [List.map_cons, Lib.join_cons]
      simp [partT]
    unfold parseL
    rw [if_neg hne]
    unfold dnT
    rw [List.map_cons, Lib.join_cons]
    exact parse_parts r p [] h

end Go.Proofs.YtmgkejgmkfeccaaDoor
