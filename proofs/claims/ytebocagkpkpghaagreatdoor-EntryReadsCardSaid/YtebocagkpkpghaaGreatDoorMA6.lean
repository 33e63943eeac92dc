/- Texts of one proof, laid together: Y13 Y14 Y15. -/
import Derived.Test.YtebocagkpkpghaaGreatDoorMA5
import Derived.Lib.AtoiTie
import Derived.Test.YtebocagkpkpghaaGreatDoorM92
/- entry: the document's numbers are the program's; pure. -/
namespace Go.Proofs.YtebocagkpkpghaaGreatDoor
open Go.RowKit Go.Shelf
set_option linter.unusedVariables false
set_option linter.unusedSimpArgs false
set_option maxRecDepth 100000

theorem isD_iff {c : UInt8} : isD c = true ↔ 48 ≤ c.toNat ∧ c.toNat ≤ 57 := by
  unfold isD
  simp
theorem dig_one (n : Nat) (h : n < 10) : (UInt8.ofNat (48 + n)).toNat = 48 + n := by
  simp
  omega
theorem dec_all : ∀ n : Nat, digN (Lib.decDigits n) = n ∧ (Lib.decDigits n).all isD = true ∧ Lib.decDigits n ≠ [] ∧ (0 < n → (Lib.decDigits n).head? ≠ some 48) := by
  intro n
  induction n using Nat.strongRecOn with
  | ind n ih =>
    by_cases h : n / 10 = 0
    · have e := dec_small h
      have hd := dig_one (n % 10) (by omega)
      rw [e]
      refine ⟨?_, ?_, by simp, fun h0 => ?_⟩
      · show 10 * 0 + ((UInt8.ofNat (48 + n % 10)).toNat - 48) = n
        rw [hd]
        omega
      · simp only [List.all_cons, List.all_nil, Bool.and_true]
        rw [isD_iff, hd]
        omega
      · intro h9
        simp only [List.head?_cons, Option.some.injEq] at h9
        have := congrArg UInt8.toNat h9
        rw [hd] at this
        have h48 : (48 : UInt8).toNat = 48 := rfl
        omega
    · have e := dec_big h
      obtain ⟨h1, h2, h3, h4⟩ := ih (n / 10) (by omega)
      have hd := dig_one (n % 10) (by omega)
      rw [e]
      refine ⟨?_, ?_, by simp, fun h0 => ?_⟩
      · rw [digN_snoc, h1, hd]
        omega
      · rw [List.all_append, h2]
        simp only [List.all_cons, List.all_nil, Bool.and_true, Bool.true_and]
        rw [isD_iff, hd]
        omega
      · rw [List.head?_append]
        have := h4 (by omega)
        cases hq : (Lib.decDigits (n / 10)).head? with
        | none => exact absurd (List.head?_eq_none_iff.1 hq) h3
        | some x =>
          rw [hq] at this
          simpa using this
theorem dec_len : ∀ (k n : Nat), n < 10 ^ (k + 1) → (Lib.decDigits n).length ≤ k + 1
  | 0, n, h => by
    rw [dec_small (by omega)]
    simp
  | k + 1, n, h => by
    by_cases hz : n / 10 = 0
    · rw [dec_small hz]
      simp
    · rw [dec_big hz]
      have := dec_len k (n / 10) (by rw [Nat.pow_succ] at h; omega)
      simp
      omega
theorem rev_ind {α : Type} {p : List α → Prop} (h0 : p []) (h1 : ∀ r c, p r → p (r ++ [c])) (l : List α) : p l := by
  have : ∀ m : List α, p m.reverse := by
    intro m
    induction m with
    | nil => exact h0
    | cons a t ih => rw [List.reverse_cons]; exact h1 _ _ ih
  have := this l.reverse
  rwa [List.reverse_reverse] at this
theorem dig_dec : ∀ l : Txt, l.all isD = true → l ≠ [] → l.head? ≠ some 48 → Lib.decDigits (digN l) = l := by
  refine rev_ind (by intro _ h; exact absurd rfl h) ?_
  intro r c ih ha _ hh
  rw [List.all_append, Bool.and_eq_true] at ha
  obtain ⟨hr, hc⟩ := ha
  simp only [List.all_cons, List.all_nil, Bool.and_true] at hc
  rw [isD_iff] at hc
  have hcc : UInt8.ofNat (48 + (c.toNat - 48)) = c := by
    apply UInt8.toNat_inj.1
    rw [dig_one _ (by omega)]
    omega
  cases r with
  | nil =>
    have : digN ([] ++ [c]) = c.toNat - 48 := by rw [digN_snoc]; simp [digN]
    rw [this, dec_small (by omega), show (c.toNat - 48) % 10 = c.toNat - 48 by omega, hcc]
    rfl
  | cons x t =>
    have hh' : (x :: t).head? ≠ some 48 := by simpa using hh
    have h1 := ih hr (by simp) hh'
    have h0 : digN (x :: t) ≠ 0 := by
      intro e
      rw [e, dec_small (by omega)] at h1
      injection h1 with h1 _
      rw [← h1] at hh'
      exact hh' rfl
    rw [digN_snoc, dec_big (by omega), show (10 * digN (x :: t) + (c.toNat - 48)) / 10 = digN (x :: t) by omega, show (10 * digN (x :: t) + (c.toNat - 48)) % 10 = c.toNat - 48 by omega, h1, hcc]
theorem decFrom_dig : ∀ (l : Txt) (a : Nat), l.all isD = true → Lib.decFrom a l = some (l.foldl (fun a c => 10 * a + (c.toNat - 48)) a)
  | [], a, _ => rfl
  | c :: t, a, h => by
    rw [List.all_cons, Bool.and_eq_true] at h
    have hc := isD_iff.1 h.1
    simp only [Lib.decFrom, Lib.digitVal, if_pos hc, List.foldl_cons]
    rw [decFrom_dig t _ h.2, Nat.mul_comm a 10]
theorem atoiR_dig {l : Txt} (ha : l.all isD = true) (hn : l ≠ []) (hl : l.length ≤ 18) : atoiR l = (digN l : Int) := by
  unfold atoiR
  rw [Lib.atoiAll_short l hl]
  cases l with
  | nil => exact absurd rfl hn
  | cons c t =>
    have hc := isD_iff.1 (by rw [List.all_cons, Bool.and_eq_true] at ha; exact ha.1)
    have h5 : (c == 45) = false := by
      rw [beq_eq_false_iff_ne]
      intro e
      rw [e] at hc
      exact absurd hc.1 (by decide)
    have h3 : (c == 43) = false := by
      rw [beq_eq_false_iff_ne]
      intro e
      rw [e] at hc
      exact absurd hc.1 (by decide)
    unfold Lib.atoi
    dsimp only
    rw [h5, h3]
    simp only [Bool.false_eq_true, if_false]
    unfold Lib.decNat
    rw [show (c :: t).isEmpty = false from rfl]
    simp only [Bool.false_eq_true, if_false]
    rw [decFrom_dig _ _ ha]
    rfl
theorem itoa_nat (n : Nat) : Lib.itoa (n : Int) = Lib.decDigits n := by
  unfold Lib.itoa
  rw [if_neg (by omega)]
  simp
/-- What the document takes for a number, the program does, too. -/
theorem numD_yes {most : Nat} {d : Txt} (h : numD most d ≠ 0) : numOkI d = true ∧ atoiR d = (numD most d : Int) ∧ numD most d ≤ most := by
  unfold numD at h ⊢
  split at h
  · exact absurd rfl h
  rename_i h1
  rw [if_neg h1]
  split at h
  · exact absurd rfl h
  rename_i h2
  rw [if_neg h2]
  split at h
  · exact absurd rfl h
  rename_i h3
  rw [if_neg h3]
  split at h
  · exact absurd rfl h
  rename_i h4
  rw [if_neg h4]
  split at h
  · exact absurd rfl h
  rename_i h5
  rw [if_neg h5]
  have ha : d.all isD = true := by simpa using h3
  have hn : d ≠ [] := by
    intro e
    rw [e] at h1
    exact h1 (by decide)
  have hi := atoiR_dig ha hn (by omega)
  refine ⟨?_, hi, by omega⟩
  unfold numOkI
  rw [hi, itoa_nat, dig_dec d ha hn h4]
  simp
/-- What the program takes for one that may be, the document does, too. -/
theorem numD_of {most : Nat} {d : Txt} (h : numOkI d = true) (h1 : 1 ≤ atoiR d) (h2 : atoiR d ≤ (most : Int)) (hm : most ≤ 9999) : ((numD most d : Nat) : Int) = atoiR d ∧ numD most d ≠ 0 := by
  have he : d = Lib.itoa (atoiR d) := by
    unfold numOkI at h
    exact eq_of_beq h
  obtain ⟨n, hn⟩ : ∃ n : Nat, atoiR d = (n : Int) := ⟨(atoiR d).toNat, by omega⟩
  rw [hn] at he h1 h2 ⊢
  rw [itoa_nat] at he
  obtain ⟨a1, a2, a3, a4⟩ := dec_all n
  have hl := dec_len 3 n (by rw [show (10 : Nat) ^ (3 + 1) = 10000 by decide]; omega)
  have : numD most d = n := by
    unfold numD
    rw [he]
    rw [if_neg (by intro h9; exact a3 (List.length_eq_zero_iff.1 (by omega))), if_neg (by omega), if_neg (by rw [a2]; simp), if_neg (a4 (by omega)), if_neg (by rw [a1]; omega), a1]
  rw [this]
  exact ⟨rfl, by omega⟩
end Go.Proofs.YtebocagkpkpghaaGreatDoor
/- entry: what the document's Read reads is what the program's reads; pure. -/
namespace Go.Proofs.YtebocagkpkpghaaGreatDoor
open Go.RowKit Go.Shelf
set_option linter.unusedVariables false
set_option linter.unusedSimpArgs false
set_option maxRecDepth 100000

/-- One Value of a text, as the document reads it, and what stands behind. -/
def rvalD (s : Txt) : Option (Txt × Txt) :=
  if (cutD 32 s).2.2 = false then none else if numD 2048 (cutD 32 s).1 = 0 then none else
  if (cutD 32 s).2.1[numD 2048 (cutD 32 s).1]? = some 10 then some ((cutD 32 s).2.1.take (numD 2048 (cutD 32 s).1), (cutD 32 s).2.1.drop (numD 2048 (cutD 32 s).1 + 1)) else none
def rvalsD : Nat → List Txt → Txt → Option (List Txt × Txt)
  | 0, acc, s => some (acc, s)
  | n + 1, acc, s => match rvalD s with
    | none => none
    | some p => rvalsD n (acc ++ [p.1]) p.2
def rattD (s : Txt) : Option (Att × Txt) :=
  if (cutD 32 s).2.2 = false then none else if (cutD 10 (cutD 32 s).2.1).2.2 = false then none else if numD 16 (cutD 10 (cutD 32 s).2.1).1 = 0 then none else
  match rvalsD (numD 16 (cutD 10 (cutD 32 s).2.1).1) [] (cutD 10 (cutD 32 s).2.1).2.1 with
  | none => none
  | some p => some (((cutD 32 s).1, p.1), p.2)
def rattsD : Nat → List Att → Txt → Option (List Att)
  | 0, acc, s => some acc
  | f + 1, acc, s => if s = [] then some acc else match rattD s with
    | none => none
    | some p => rattsD f (acc ++ [p.1]) p.2
/-- The document's Read, as words. -/
def readD (s : Txt) : Option (List Att) := match rattsD (s.length + 1) [] s with
  | none => none
  | some e => if entOk e = true then some e else none

theorem cutD_yes {b : UInt8} {s : Txt} (h : (cutD b s).2.2 = true) : cutP b s = ((cutD b s).1, some (cutD b s).2.1) := by
  unfold cutD at h ⊢
  generalize cutP b s = p at h ⊢
  obtain ⟨x, y⟩ := p
  cases y with
  | none => cases h
  | some y => rfl
theorem cutD_of {b : UInt8} {s : Txt} (h : (cutP b s).2.isSome = true) : (cutD b s).2.2 = true ∧ (cutD b s).1 = (cutP b s).1 ∧ (cutD b s).2.1 = (cutP b s).2.getD [] := by
  unfold cutD
  generalize cutP b s = p at h ⊢
  obtain ⟨x, y⟩ := p
  cases y with
  | none => cases h
  | some y => exact ⟨rfl, rfl, rfl⟩
theorem numS_yes {b : UInt8} {s : Txt} {most : Nat} (h : (cutD b s).2.2 = true) (hn : numD most (cutD b s).1 ≠ 0) : numS b (s, false) = ((numD most (cutD b s).1 : Int), ((cutD b s).2.1, false)) := by
  obtain ⟨h1, h2, _⟩ := numD_yes hn
  unfold numS
  rw [cutD_yes h, h2, h1]
  rfl
theorem numS_of {b : UInt8} {s : Txt} (h : (numS b (s, false)).2.2 = false) : (cutD b s).2.2 = true ∧ numS b (s, false) = (atoiR (cutD b s).1, ((cutD b s).2.1, false)) ∧ numOkI (cutD b s).1 = true := by
  have hr := (numS_less h)
  unfold numS at h ⊢
  simp only [Bool.or_eq_false_iff, Bool.not_eq_false'] at h
  obtain ⟨⟨_, h1⟩, h2⟩ := h
  obtain ⟨a1, a2, a3⟩ := cutD_of h1
  rw [a2, a3]
  refine ⟨a1, ?_, h2⟩
  rw [h1, h2]
  rfl
theorem firS_yes {n : Nat} {s : Txt} (h : n ≤ s.length) : firS (n : Int) (s, false) = (s.take n, true, (s.drop n, false)) := by
  unfold firS
  rw [if_pos ⟨by omega, by show (n : Int) ≤ (s.length : Int); omega⟩]
  rfl
theorem untS_at {b : UInt8} {t : Txt} : untS b (b :: t, false) = ([], (t, false)) := by
  unfold untS cutP
  simp
theorem rvalD_yes {s v t : Txt} (h : rvalD s = some (v, t)) : valS (s, false) = (v, (t, false)) := by
  unfold rvalD at h
  split at h
  · cases h
  rename_i h1
  split at h
  · cases h
  rename_i h2
  split at h
  · rename_i h3
    have h1' : (cutD 32 s).2.2 = true := by simpa using h1
    have hn := numS_yes h1' h2
    generalize numD 2048 (cutD 32 s).1 = n at *
    generalize (cutD 32 s).2.1 = m at *
    have hlt : n < m.length := (List.getElem?_eq_some_iff.1 h3).1
    have hdr : m.drop n = 10 :: m.drop (n + 1) := by
      rw [List.drop_eq_getElem_cons hlt]
      rw [(List.getElem?_eq_some_iff.1 h3).2]
    unfold valS
    rw [hn]
    dsimp only
    rw [firS_yes (by omega)]
    dsimp only
    rw [hdr, untS_at]
    injection h with h
    injection h with e1 e2
    rw [← e1, ← e2]
    rfl
  · cases h
theorem rvalD_of {s : Txt} (h : (valS (s, false)).2.2 = false) (hv : valOk (valS (s, false)).1 = true) : rvalD s = some ((valS (s, false)).1, (valS (s, false)).2.1) := by
  unfold valS at h hv ⊢
  dsimp only at h hv ⊢
  rw [Bool.or_eq_false_iff] at h
  obtain ⟨hu, hf⟩ := h
  simp only [Bool.not_eq_false', Bool.and_eq_true] at hf
  have hm : (numS 32 (s, false)).2.2 = false := by
    have := (untS_less hu).2
    rw [firS_bad] at this
    exact this
  obtain ⟨h1, h2, h3⟩ := numS_of hm
  rw [h2] at hu hf hv ⊢
  dsimp only at hu hf hv ⊢
  have hi : 0 ≤ atoiR (cutD 32 s).1 ∧ atoiR (cutD 32 s).1 ≤ ((cutD 32 s).2.1.length : Int) := by
    have := hf.1
    unfold firS at this
    split at this
    · assumption
    · cases this
  obtain ⟨n, hn⟩ : ∃ n : Nat, atoiR (cutD 32 s).1 = (n : Int) := ⟨(atoiR (cutD 32 s).1).toNat, by omega⟩
  rw [hn] at hu hf hv hi ⊢
  rw [firS_yes (by omega)] at hu hf hv ⊢
  dsimp only at hu hf hv ⊢
  unfold valOk at hv
  rw [Bool.and_eq_true, decide_eq_true_eq, decide_eq_true_eq, List.length_take, Nat.min_eq_left (by omega)] at hv
  have hnd := numD_of (most := 2048) h3 (by omega) (by omega) (by decide)
  rw [hn] at hnd
  have hnn : numD 2048 (cutD 32 s).1 = n := by omega
  have hu1 : (untS 10 ((cutD 32 s).2.1.drop n, false)).1 = [] := by simpa using hf.2
  have hus : (cutP 10 ((cutD 32 s).2.1.drop n)).2.isSome = true := by
    unfold untS at hu
    simpa using hu
  have hup : (cutP 10 ((cutD 32 s).2.1.drop n)).1 = [] := hu1
  obtain ⟨t, ht⟩ := Option.isSome_iff_exists.1 hus
  have hd := cutP_some ht
  rw [hup] at hd
  have hd' : (cutD 32 s).2.1.drop n = 10 :: t := hd
  have hg : (cutD 32 s).2.1[n]? = some 10 := by
    have := congrArg (fun l : Txt => l[0]?) hd'
    simp only [List.getElem?_drop, Nat.add_zero] at this
    exact this
  have hdd : (cutD 32 s).2.1.drop (n + 1) = t := by
    have := congrArg (fun l : Txt => l.drop 1) hd'
    simpa using this
  unfold rvalD
  rw [if_neg (by rw [h1]; simp), if_neg (by rw [hnn]; omega), hnn, if_pos hg, hdd]
  rw [hd', untS_at]
theorem rvalsD_yes : ∀ (n : Nat) {acc vs : List Txt} {s t : Txt} {f : Nat} {N : Int}, rvalsD n acc s = some (vs, t) → N = ((acc.length + n : Nat) : Int) → msr (s, false) ≤ f → valsL N f acc (s, false) = (vs, (t, false))
  | 0, acc, vs, s, t, f, N, h, hN, hf => by
    unfold rvalsD at h
    injection h with h
    injection h with h1 h2
    rw [valsL_stop (by omega), h1, h2]
  | n + 1, acc, vs, s, t, f, N, h, hN, hf => by
    unfold rvalsD at h
    cases hv : rvalD s with
    | none => rw [hv] at h; cases h
    | some p =>
      rw [hv] at h
      obtain ⟨v, s2⟩ := p
      have hs := rvalD_yes hv
      obtain ⟨f', hf', hx⟩ := valsL_next (n := N) (f := f) (acc := acc) (r := (s, false)) ⟨by omega, rfl⟩ hf rfl
      rw [hs] at hf' hx
      rw [← hx]
      exact rvalsD_yes n h (by simp; omega) hf'
theorem valsL_mem (N : Int) : ∀ (f : Nat) (acc : List Txt) (r : Rd) (x : Txt), x ∈ acc → x ∈ (valsL N f acc r).1
  | 0, acc, r, x, h => h
  | f + 1, acc, r, x, h => by
    unfold valsL
    split
    · exact valsL_mem N f _ _ x (List.mem_append_left _ h)
    · exact h
theorem rvalsD_of : ∀ (n : Nat) {acc vs : List Txt} {s t : Txt} {f : Nat} {N : Int}, valsL N f acc (s, false) = (vs, (t, false)) → N = ((acc.length + n : Nat) : Int) → msr (s, false) ≤ f → vs.all valOk = true → rvalsD n acc s = some (vs, t)
  | 0, acc, vs, s, t, f, N, h, hN, hf, ha => by
    rw [valsL_stop (by omega)] at h
    injection h with h1 h2
    injection h2 with h2 _
    unfold rvalsD
    rw [h1, h2]
  | n + 1, acc, vs, s, t, f, N, h, hN, hf, ha => by
    obtain ⟨f', hf', hx⟩ := valsL_next (n := N) (f := f) (acc := acc) (r := (s, false)) ⟨by omega, rfl⟩ hf rfl
    rw [h] at hx
    have hb : (valS (s, false)).2.2 = false := (valsL_less N f' _ _ (by rw [hx])).2
    have hm : (valS (s, false)).1 ∈ vs := by
      have := valsL_mem N f' (acc ++ [(valS (s, false)).1]) (valS (s, false)).2 (valS (s, false)).1 (by simp)
      rw [hx] at this
      exact this
    have hv := rvalD_of hb (List.all_eq_true.1 ha _ hm)
    have he : (valS (s, false)).2 = ((valS (s, false)).2.1, false) := Prod.ext rfl hb
    unfold rvalsD
    rw [hv]
    dsimp only
    rw [he] at hx hf'
    exact rvalsD_of n hx (by simp; omega) hf' ha
theorem valsL_full (N : Int) : ∀ (f : Nat) (acc : List Txt) (r : Rd), msr r ≤ f → (valsL N f acc r).2.2 = false → N ≤ ((valsL N f acc r).1.length : Int)
  | 0, acc, r, hf, h => by
    unfold valsL at h ⊢
    unfold msr at hf
    dsimp only at h
    rw [h] at hf
    simp at hf
  | f + 1, acc, r, hf, h => by
    by_cases hc : (acc.length : Int) < N ∧ r.2 = false
    · unfold valsL at h ⊢
      rw [if_pos hc] at h ⊢
      exact valsL_full N f _ _ (by have := valS_msr hc.2; omega) h
    · rw [valsL_stop hc] at h ⊢
      dsimp only at h ⊢
      by_cases hq : (acc.length : Int) < N
      · exact absurd ⟨hq, h⟩ hc
      · omega
theorem untS_of {b : UInt8} {s : Txt} (h : (untS b (s, false)).2.2 = false) : (cutD b s).2.2 = true ∧ untS b (s, false) = ((cutD b s).1, ((cutD b s).2.1, false)) := by
  unfold untS at h ⊢
  simp only [Bool.false_or, Bool.not_eq_false'] at h ⊢
  obtain ⟨a1, a2, a3⟩ := cutD_of h
  rw [a2, a3, h]
  exact ⟨a1, rfl⟩
theorem untS_yes {b : UInt8} {s : Txt} (h : (cutD b s).2.2 = true) : untS b (s, false) = ((cutD b s).1, ((cutD b s).2.1, false)) := by
  unfold untS
  rw [cutD_yes h]
  rfl
theorem rattD_yes {s t : Txt} {a : Att} (h : rattD s = some (a, t)) : attS (s, false) = (a, (t, false)) := by
  unfold rattD at h
  split at h
  · cases h
  rename_i h1
  split at h
  · cases h
  rename_i h2
  split at h
  · cases h
  rename_i h3
  have h1' : (cutD 32 s).2.2 = true := by simpa using h1
  have h2' : (cutD 10 (cutD 32 s).2.1).2.2 = true := by simpa using h2
  unfold attS
  rw [untS_yes h1']
  dsimp only
  rw [numS_yes h2' h3]
  dsimp only
  split at h
  · cases h
  · rename_i p hp
    obtain ⟨vs, t'⟩ := p
    rw [rvalsD_yes _ hp (by simp) (Nat.le_refl _)]
    injection h with h
    injection h with e1 e2
    rw [← e1, ← e2]
theorem rattD_of {s : Txt} (h : (attS (s, false)).2.2 = false) (h0 : 0 < (attS (s, false)).1.2.length) (h1 : (attS (s, false)).1.2.length ≤ 16) (hv : (attS (s, false)).1.2.all valOk = true) : rattD s = some ((attS (s, false)).1, (attS (s, false)).2.1) := by
  unfold attS at h h0 h1 hv ⊢
  dsimp only at h h0 h1 hv ⊢
  have hm : (numS 10 (untS 32 (s, false)).2).2.2 = false := (valsL_less _ _ _ _ h).2
  have hu : (untS 32 (s, false)).2.2 = false := (numS_less hm).2
  obtain ⟨a1, a2⟩ := untS_of hu
  rw [a2] at h h0 h1 hv hm ⊢
  dsimp only at h h0 h1 hv hm ⊢
  obtain ⟨b1, b2, b3⟩ := numS_of hm
  rw [b2] at h h0 h1 hv ⊢
  dsimp only at h h0 h1 hv ⊢
  generalize hN : atoiR (cutD 10 (cutD 32 s).2.1).1 = N at *
  have hfull := valsL_full N _ _ _ (Nat.le_refl _) h
  have hpos : 1 ≤ N := by
    by_cases hc : (([] : List Txt).length : Int) < N
    · have : ([] : List Txt).length = 0 := rfl
      omega
    · rw [valsL_stop (fun hh => hc hh.1)] at h0
      simp at h0
  obtain ⟨c1, c2⟩ := numD_of (most := 16) b3 (by rw [hN]; exact hpos) (by rw [hN]; omega) (by decide)
  rw [hN] at c1
  have hx : valsL N (msr ((cutD 10 (cutD 32 s).2.1).2.1, false)) [] ((cutD 10 (cutD 32 s).2.1).2.1, false) = ((valsL N (msr ((cutD 10 (cutD 32 s).2.1).2.1, false)) [] ((cutD 10 (cutD 32 s).2.1).2.1, false)).1, ((valsL N (msr ((cutD 10 (cutD 32 s).2.1).2.1, false)) [] ((cutD 10 (cutD 32 s).2.1).2.1, false)).2.1, false)) := Prod.ext rfl (Prod.ext rfl h)
  have hy := rvalsD_of (numD 16 (cutD 10 (cutD 32 s).2.1).1) hx (by simp; omega) (Nat.le_refl _) hv
  unfold rattD
  rw [if_neg (by rw [a1]; simp), if_neg (by rw [b1]; simp), if_neg c2, hy]
theorem rattsD_yes : ∀ (f : Nat) {acc e : List Att} {s : Txt}, rattsD f acc s = some e → attsL f acc (s, false) = some e
  | 0, acc, e, s, h => h
  | f + 1, acc, e, s, h => by
    unfold rattsD at h
    by_cases hs : s = []
    · rw [if_pos hs] at h
      rw [attsL_end (r := (s, false)) hs, h]
    · rw [if_neg hs] at h
      rw [attsL_next (r := (s, false)) hs]
      cases hv : rattD s with
      | none => rw [hv] at h; cases h
      | some p =>
        rw [hv] at h
        obtain ⟨a, t⟩ := p
        rw [rattD_yes hv]
        exact rattsD_yes f h
theorem attsL_mem : ∀ (f : Nat) {acc e : List Att} {r : Rd}, attsL f acc r = some e → ∀ a ∈ acc, a ∈ e
  | 0, acc, e, r, h, a, ha => by
    injection h with h
    rw [← h]
    exact ha
  | f + 1, acc, e, r, h, a, ha => by
    unfold attsL at h
    split at h
    · injection h with h
      rw [← h]
      exact ha
    · split at h
      · cases h
      · exact attsL_mem f h a (List.mem_append_left _ ha)
theorem rattsD_of : ∀ (f : Nat) {acc e : List Att} {s : Txt}, attsL f acc (s, false) = some e → entOk e = true → rattsD f acc s = some e
  | 0, acc, e, s, h, _ => h
  | f + 1, acc, e, s, h, he => by
    unfold rattsD
    by_cases hs : s = []
    · rw [if_pos hs]
      rw [attsL_end (r := (s, false)) hs] at h
      exact h
    · rw [if_neg hs]
      rw [attsL_next (r := (s, false)) hs] at h
      split at h
      · cases h
      · rename_i hb
        have hb' : (attS (s, false)).2.2 = false := by simpa using hb
        have hm := attsL_mem f h (attS (s, false)).1 (by simp)
        obtain ⟨_, _, hp⟩ := entOk_parts he
        obtain ⟨p1, p2, _, p4, _⟩ := hp _ hm
        unfold maybeA at p4
        rw [Bool.and_eq_true] at p4
        rw [rattD_of hb' p1 p2 p4.1]
        dsimp only
        have h9 : (attS (s, false)).2 = ((attS (s, false)).2.1, false) := Prod.ext rfl hb'
        rw [h9] at h
        exact rattsD_of f h he
/-- BOTH READ THE SAME. -/
theorem read_same (s : Txt) : readP s = (match readD s with | some e => (e, 0) | none => ([], 172)) := by
  unfold readP readD
  cases hr : rattsD (s.length + 1) [] s with
  | some e =>
    rw [rattsD_yes _ hr]
    dsimp only
    cases h : entOk e <;> rfl
  | none =>
    dsimp only
    cases hl : attsL (s.length + 1) [] (s, false) with
    | none => rfl
    | some e =>
      dsimp only
      split
      · rename_i h
        rw [rattsD_of _ hl h] at hr
        cases hr
      · rfl
end Go.Proofs.YtebocagkpkpghaaGreatDoor
/- entry: the text of an entry that may be is read as that entry; pure. -/
namespace Go.Proofs.YtebocagkpkpghaaGreatDoor
open Go.RowKit Go.Shelf
set_option linter.unusedVariables false
set_option linter.unusedSimpArgs false
set_option maxRecDepth 100000

theorem cutD_front {b : UInt8} {a t : Txt} (h : b ∉ a) : cutD b (a ++ b :: t) = (a, t, true) := by
  unfold cutD
  rw [cutP_at (j := a.length) (by simp) (by simpa using h)]
  simp
theorem isD_no {l : Txt} (h : l.all isD = true) {c : UInt8} (hc : isD c = false) : c ∉ l := by
  intro hm
  have := List.all_eq_true.1 h c hm
  rw [hc] at this
  cases this
theorem dec_no (n : Nat) {c : UInt8} (hc : isD c = false) : c ∉ Lib.decDigits n := isD_no (dec_all n).2.1 hc
theorem numD_dec {n most : Nat} (h0 : 1 ≤ n) (h1 : n ≤ most) (hm : most ≤ 9999) : numD most (Lib.decDigits n) = n := by
  obtain ⟨a1, a2, a3, a4⟩ := dec_all n
  have hl := dec_len 3 n (by rw [show (10 : Nat) ^ (3 + 1) = 10000 by decide]; omega)
  unfold numD
  rw [if_neg (by intro h9; exact a3 (List.length_eq_zero_iff.1 (by omega))), if_neg (by omega), if_neg (by rw [a2]; simp), if_neg (a4 (by omega)), if_neg (by rw [a1]; omega), a1]
theorem rvalD_line {v : Txt} (hv : valOk v = true) (t : Txt) : rvalD (lineV v ++ t) = some (v, t) := by
  unfold valOk at hv
  rw [Bool.and_eq_true, decide_eq_true_eq, decide_eq_true_eq] at hv
  have e : lineV v ++ t = Lib.decDigits v.length ++ 32 :: (v ++ 10 :: t) := by unfold lineV; simp
  have hc : cutD 32 (lineV v ++ t) = (Lib.decDigits v.length, v ++ 10 :: t, true) := by
    rw [e]
    exact cutD_front (dec_no _ (by decide))
  unfold rvalD
  rw [hc]
  dsimp only
  rw [if_neg (by simp), numD_dec hv.1 hv.2 (by decide), if_neg (by omega), if_pos (by simp)]
  congr 1
  refine Prod.ext ?_ ?_
  · simp
  · show (v ++ 10 :: t).drop (v.length + 1) = t
    rw [show v ++ 10 :: t = (v ++ [10]) ++ t by simp]
    rw [show v.length + 1 = (v ++ [10]).length by simp]
    exact List.drop_left
theorem rvalsD_lines : ∀ (vs acc : List Txt) (t : Txt), vs.all valOk = true → rvalsD vs.length acc (vs.flatMap lineV ++ t) = some (acc ++ vs, t)
  | [], acc, t, _ => by simp [rvalsD]
  | v :: vs, acc, t, h => by
    rw [List.all_cons, Bool.and_eq_true] at h
    have e : (v :: vs).flatMap lineV ++ t = lineV v ++ (vs.flatMap lineV ++ t) := by simp
    rw [e, List.length_cons]
    unfold rvalsD
    rw [rvalD_line h.1]
    dsimp only
    rw [rvalsD_lines vs (acc ++ [v]) t h.2]
    simp
theorem nameT_no {s : Txt} (h : nameT s = true) : (32 : UInt8) ∉ s := by
  intro hm
  unfold nameT at h
  simp only [Bool.and_eq_true] at h
  have := List.all_eq_true.1 h.2.2.2 32 hm
  revert this
  decide
theorem rattD_att {a : Att} (h0 : 0 < a.2.length) (h1 : a.2.length ≤ 16) (h2 : maybeA a.1 a.2 = true) (t : Txt) : rattD (attT a ++ t) = some (a, t) := by
  obtain ⟨nm, vs⟩ := a
  dsimp only at h0 h1 h2
  unfold maybeA at h2
  rw [Bool.and_eq_true] at h2
  have e : attT (nm, vs) ++ t = nm ++ 32 :: (Lib.decDigits vs.length ++ 10 :: (vs.flatMap lineV ++ t)) := by unfold attT lineN; simp
  have hc : cutD 32 (attT (nm, vs) ++ t) = (nm, Lib.decDigits vs.length ++ 10 :: (vs.flatMap lineV ++ t), true) := by
    rw [e]
    exact cutD_front (nameT_no h2.2)
  have hc2 : cutD 10 (Lib.decDigits vs.length ++ 10 :: (vs.flatMap lineV ++ t)) = (Lib.decDigits vs.length, vs.flatMap lineV ++ t, true) := cutD_front (dec_no _ (by decide))
  unfold rattD
  rw [hc]
  dsimp only
  rw [hc2]
  dsimp only
  rw [if_neg (by simp), if_neg (by simp), numD_dec h0 h1 (by decide), if_neg (by omega), rvalsD_lines vs [] t h2.1]
  rfl
theorem attT_len (a : Att) : 1 ≤ (attT a).length := by
  unfold attT lineN
  simp
  omega
theorem rattsD_text : ∀ (e acc : List Att) (f : Nat), e.length < f → (∀ a ∈ e, 0 < a.2.length ∧ a.2.length ≤ 16 ∧ maybeA a.1 a.2 = true) → rattsD f acc (textE e) = some (acc ++ e)
  | [], acc, f, hf, _ => by
    cases f with
    | zero => omega
    | succ f => unfold rattsD textE; simp
  | a :: e, acc, f, hf, h => by
    cases f with
    | zero => omega
    | succ f =>
      have e1 : textE (a :: e) = attT a ++ textE e := by unfold textE; simp
      obtain ⟨h0, h1, h2⟩ := h a (by simp)
      unfold rattsD
      rw [if_neg (by
        intro h9
        have := attT_len a
        rw [e1, List.append_eq_nil_iff] at h9
        rw [h9.1] at this
        simp at this), e1, rattD_att h0 h1 h2]
      dsimp only
      rw [rattsD_text e (acc ++ [a]) f (by simp at hf; omega) (fun x hx => h x (by simp [hx]))]
      simp
theorem textE_len (e : List Att) : e.length ≤ (textE e).length := by
  induction e with
  | nil => simp
  | cons a e ih =>
    have e1 : textE (a :: e) = attT a ++ textE e := by unfold textE; simp
    have := attT_len a
    rw [e1]
    simp
    omega
/-- WHAT IS LAID DOWN IS READ AS IT WAS. -/
theorem read_text {e : List Att} (h : entOk e = true) : readP (textE e) = (e, 0) := by
  obtain ⟨_, _, hp⟩ := entOk_parts h
  have h1 := rattsD_text e [] ((textE e).length + 1) (by have := textE_len e; omega) (fun a ha => ⟨(hp a ha).1, (hp a ha).2.1, (hp a ha).2.2.2.1⟩)
  rw [read_same]
  unfold readD
  rw [h1]
  dsimp only [List.nil_append]
  rw [if_pos h]
end Go.Proofs.YtebocagkpkpghaaGreatDoor
