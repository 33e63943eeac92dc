/- Texts of one proof, laid together: X1 X2 X3. -/
import Derived.Test.YtebocagkpkpghaaGreatDoorM81
import Derived.Test.YtebocagkpkpghaaGreatDoorM78
import Derived.Test.YtebocagkpkpghaaGreatDoorM82
/- entry: the document's with and set, as words. -/
namespace Go.Proofs.YtebocagkpkpghaaGreatDoor
open Go.RowKit Go.Shelf
set_option linter.unusedVariables false
set_option linter.unusedSimpArgs false

/-- Rising texts with one more, one round of it: what has been laid, and whether the new one is among it. -/
def stepW (s : Txt) (p : List Txt × Bool) (x : Txt) : List Txt × Bool :=
  ((p.1 ++ (if (!p.2 && decide (s ≤ x)) = true then [s] else [])) ++ (if (x == s) = true then [] else [x]), p.2 || decide (s ≤ x))
def preW (l : List Txt) (s : Txt) : List Txt × Bool := l.foldl (stepW s) ([], false)
def withR (l : List Txt) (s : Txt) : List Txt := (preW l s).1 ++ (if (preW l s).2 = true then [] else [s])
theorem preW_snoc (l : List Txt) (x s : Txt) : preW (l ++ [x]) s = stepW s (preW l s) x := by simp [preW]
theorem snoc_ind {α : Type} {p : List α → Prop} (h0 : p []) (h1 : ∀ l x, p l → p (l ++ [x])) : ∀ l, p l := by
  intro l
  have h : ∀ m : List α, p m.reverse := by
    intro m
    induction m with
    | nil => exact h0
    | cons a r ih => rw [List.reverse_cons]; exact h1 _ _ ih
  have := h l.reverse
  rwa [List.reverse_reverse] at this
theorem preW_is (s : Txt) : ∀ l, Rise l → Rise (preW l s).1 ∧ (∀ x, x ∈ (preW l s).1 ↔ x ∈ l ∨ ((preW l s).2 = true ∧ x = s)) ∧ ((preW l s).2 = true ↔ ∃ x ∈ l, s ≤ x) := by
  refine snoc_ind ?_ ?_
  · intro _
    exact ⟨List.Pairwise.nil, by simp [preW], by simp [preW]⟩
  · intro l x ih hr
    unfold Rise at hr
    rw [List.pairwise_append] at hr
    obtain ⟨hr1, _, hr3⟩ := hr
    have hlx : ∀ y ∈ l, y < x := fun y hy => hr3 y hy x (by simp)
    obtain ⟨i1, i2, i3⟩ := ih hr1
    rw [preW_snoc]
    generalize preW l s = q at i1 i2 i3 ⊢
    obtain ⟨out, done⟩ := q
    dsimp only at i1 i2 i3
    unfold stepW
    dsimp only
    cases done
    · have hno : ∀ y ∈ l, y < s := fun y hy => by
        rcases Decidable.em (s ≤ y) with h | h
        · exact absurd (i3.2 ⟨y, hy, h⟩) (by decide)
        · exact List.not_le.1 h
      have hout : ∀ y, y ∈ out ↔ y ∈ l := fun y => by rw [i2 y]; simp
      by_cases hsx : s ≤ x
      · by_cases hxs : x = s
        · subst hxs
          simp only [Bool.not_false, Bool.true_and, decide_eq_true hsx, if_true, beq_self_eq_true, List.append_nil, Bool.or_true]
          refine ⟨?_, fun y => by rw [List.mem_append, hout, List.mem_append]; simp, by simp only [true_iff]; exact ⟨x, by simp, hsx⟩⟩
          unfold Rise
          rw [List.pairwise_append]
          exact ⟨i1, by simp, fun y hy z hz => by rw [List.mem_singleton.1 hz]; exact hlx y ((hout y).1 hy)⟩
        · have hb : (x == s) = false := by simpa using hxs
          have hlt : s < x := tx_lt hsx (fun e => hxs e.symm)
          simp only [Bool.not_false, Bool.true_and, decide_eq_true hsx, if_true, hb, Bool.false_eq_true, if_false, Bool.or_true]
          refine ⟨?_, fun y => by simp only [List.mem_append, hout, List.mem_singleton, true_and]; constructor <;> (intro h; rcases h with (h | h) | h <;> simp [h]), by simp only [true_iff]; exact ⟨x, by simp, hsx⟩⟩
          unfold Rise
          rw [List.pairwise_append, List.pairwise_append]
          refine ⟨⟨i1, by simp, fun y hy z hz => by rw [List.mem_singleton.1 hz]; exact hno y ((hout y).1 hy)⟩, by simp, fun y hy z hz => ?_⟩
          rw [List.mem_singleton.1 hz]
          rcases List.mem_append.1 hy with h | h
          · exact hlx y ((hout y).1 h)
          · rw [List.mem_singleton.1 h]; exact hlt
      · have hlt : x < s := List.not_le.1 hsx
        have hb : (x == s) = false := by simpa using tx_ne hlt
        simp only [decide_eq_false hsx, Bool.and_false, Bool.false_eq_true, if_false, hb, List.append_nil, Bool.or_false]
        refine ⟨?_, fun y => by rw [List.mem_append, hout, List.mem_append]; simp, by simp only [false_iff]; rintro ⟨y, hy, h⟩; rcases List.mem_append.1 hy with h2 | h2; exact List.not_le.2 (hno y h2) h; rw [List.mem_singleton.1 h2] at h; exact hsx h⟩
        unfold Rise
        rw [List.pairwise_append]
        exact ⟨i1, by simp, fun y hy z hz => by rw [List.mem_singleton.1 hz]; exact hlx y ((hout y).1 hy)⟩
    · obtain ⟨y0, hy0, hsy⟩ := i3.1 rfl
      have hlt : s < x := tx_lelt hsy (hlx y0 hy0)
      have hb : (x == s) = false := by simpa using (fun e : x = s => tx_ne hlt e.symm)
      simp only [Bool.not_true, Bool.false_and, Bool.false_eq_true, if_false, hb, List.append_nil, Bool.true_or]
      refine ⟨?_, fun y => by rw [List.mem_append, i2, List.mem_append]; simp only [true_and, List.mem_singleton]; constructor <;> (intro h; rcases h with (h | h) | h <;> simp [h]), by simp only [true_iff]; exact ⟨x, by simp, tx_le hlt⟩⟩
      unfold Rise
      rw [List.pairwise_append]
      refine ⟨i1, by simp, fun y hy z hz => ?_⟩
      rw [List.mem_singleton.1 hz]
      rcases (i2 y).1 hy with h | ⟨_, h⟩
      · exact hlx y h
      · rw [h]; exact hlt
theorem withR_is {l : List Txt} (s : Txt) (h : Rise l) : Rise (withR l s) ∧ ∀ x, x ∈ withR l s ↔ x ∈ l ∨ x = s := by
  obtain ⟨h1, h2, h3⟩ := preW_is s l h
  unfold withR
  generalize preW l s = q at h1 h2 h3 ⊢
  obtain ⟨out, done⟩ := q
  dsimp only at h1 h2 h3 ⊢
  cases done
  · simp only [Bool.false_eq_true, if_false]
    have hno : ∀ y ∈ l, y < s := fun y hy => by
      rcases Decidable.em (s ≤ y) with h | h
      · exact absurd (h3.2 ⟨y, hy, h⟩) (by decide)
      · exact List.not_le.1 h
    have hout : ∀ y, y ∈ out ↔ y ∈ l := fun y => by rw [h2 y]; simp
    refine ⟨?_, fun x => by rw [List.mem_append, hout]; simp⟩
    unfold Rise
    rw [List.pairwise_append]
    exact ⟨h1, by simp, fun y hy z hz => by rw [List.mem_singleton.1 hz]; exact hno y ((hout y).1 hy)⟩
  · simp only [if_true, List.append_nil]
    exact ⟨h1, fun x => by rw [h2]; simp⟩
theorem withR_ord {l : List Txt} (s : Txt) : withR (ordS l) s = ordS (l ++ [s]) := by
  obtain ⟨h1, h2⟩ := withR_is s (ordS_is l).1
  exact rise_same h1 (ordS_is _).1 (fun x => by rw [h2, (ordS_is l).2, (ordS_is _).2, List.mem_append]; simp)
theorem withs_ord (vs : List Txt) : ∀ l, vs.foldl withR (ordS l) = ordS (l ++ vs) := by
  induction vs with
  | nil => intro l; rw [List.append_nil]; rfl
  | cons s r ih =>
    intro l
    show r.foldl withR (withR (ordS l) s) = _
    rw [withR_ord, ih, List.append_assoc]
    rfl
theorem stepW_len (s : Txt) (p : List Txt × Bool) (x : Txt) : (stepW s p x).1.length + (if (stepW s p x).2 = true then 0 else 1) ≤ p.1.length + (if p.2 = true then 0 else 1) + 1 := by
  obtain ⟨out, done⟩ := p
  unfold stepW
  dsimp only
  cases done <;> by_cases h1 : s ≤ x <;> cases h2 : x == s <;> simp [h1]
theorem preW_len (s : Txt) : ∀ l, (preW l s).1.length + (if (preW l s).2 = true then 0 else 1) ≤ l.length + 1 := by
  refine snoc_ind (by simp [preW]) (fun l x ih => ?_)
  rw [preW_snoc]
  have := stepW_len s (preW l s) x
  simp only [List.length_append, List.length_singleton]
  omega
theorem withR_len (l : List Txt) (s : Txt) : (withR l s).length ≤ l.length + 1 := by
  have := preW_len s l
  unfold withR
  cases h : (preW l s).2 <;> simp [h] at this ⊢ <;> omega
theorem preW_sub (s : Txt) : ∀ l, ∀ x ∈ (preW l s).1, x ∈ l ∨ x = s := by
  refine snoc_ind (by simp [preW]) (fun l x ih y hy => ?_)
  rw [preW_snoc] at hy
  unfold stepW at hy
  dsimp only at hy
  rcases List.mem_append.1 hy with h | h
  · rcases List.mem_append.1 h with h | h
    · rcases ih y h with h | h
      · exact .inl (List.mem_append.2 (.inl h))
      · exact .inr h
    · split at h
      · exact .inr (List.mem_singleton.1 h)
      · cases h
  · split at h
    · cases h
    · exact .inl (List.mem_append.2 (.inr h))
theorem withR_sub (l : List Txt) (s : Txt) : ∀ x ∈ withR l s, x ∈ l ∨ x = s := by
  intro x hx
  unfold withR at hx
  rcases List.mem_append.1 hx with h | h
  · exact preW_sub s l x h
  · split at h
    · cases h
    · exact .inr (List.mem_singleton.1 h)

/-- Names rise. -/
def NRise (L : List Att) : Prop := L.Pairwise fun a b => a.1 < b.1
/-- An entry's shape: names rise, none without values. -/
def Good7 (L : List Att) : Prop := NRise L ∧ ∀ a ∈ L, a.2 ≠ []
theorem nrise_eq {L : List Att} (h : NRise L) : ∀ a ∈ L, ∀ b ∈ L, a.1 = b.1 → a = b := by
  induction L with
  | nil => intro a ha; cases ha
  | cons y r ih =>
    have h' := List.pairwise_cons.1 h
    intro a ha b hb he
    rcases List.mem_cons.1 ha with e1 | m1
    · rcases List.mem_cons.1 hb with e2 | m2
      · rw [e1, e2]
      · have := h'.1 b m2; rw [← e1, he] at this; exact absurd this (tx_irr _)
    · rcases List.mem_cons.1 hb with e2 | m2
      · have := h'.1 a m1; rw [← e2, he] at this; exact absurd this (tx_irr _)
      · exact ih h'.2 a m1 b m2 he
theorem nrise_same : ∀ {l m : List Att}, NRise l → NRise m → (∀ x, x ∈ l ↔ x ∈ m) → l = m
  | [], [], _, _, _ => rfl
  | [], b :: m, _, _, h => absurd ((h b).2 (by simp)) (by simp)
  | a :: l, [], _, _, h => absurd ((h a).1 (by simp)) (by simp)
  | a :: l, b :: m, hl, hm, h => by
    have hl' := List.pairwise_cons.1 hl
    have hm' := List.pairwise_cons.1 hm
    have hab : a = b := by
      have h1 := (h a).1 (by simp)
      have h2 := (h b).2 (by simp)
      simp only [List.mem_cons] at h1 h2
      rcases h1 with h1 | h1
      · exact h1
      · rcases h2 with h2 | h2
        · exact h2.symm
        · exact absurd (tx_tr (hl'.1 b h2) (hm'.1 a h1)) (tx_irr a.1)
    subst hab
    rw [nrise_same hl'.2 hm'.2 (fun x => ?_)]
    constructor
    · intro hx
      have h1 := (h x).1 (List.mem_cons_of_mem _ hx)
      simp only [List.mem_cons] at h1
      rcases h1 with h1 | h1
      · exact absurd (hl'.1 x hx) (by rw [h1]; exact tx_irr a.1)
      · exact h1
    · intro hx
      have h1 := (h x).2 (List.mem_cons_of_mem _ hx)
      simp only [List.mem_cons] at h1
      rcases h1 with h1 | h1
      · exact absurd (hm'.1 x hx) (by rw [h1]; exact tx_irr a.1)
      · exact h1
theorem cont2_of {L : List Att} (h : NRise L) {a : Att} (ha : a ∈ L) : cont2 L a.1 = a.2 := by
  unfold cont2
  cases hf : L.find? (fun x => x.1 == a.1) with
  | none => rw [List.find?_eq_none] at hf; exact absurd (by simp) (hf a ha)
  | some b =>
    have h1 := List.mem_of_find?_eq_some hf
    have h2 : b.1 = a.1 := by simpa using List.find?_some hf
    rw [nrise_eq h b h1 a ha h2]
    rfl
theorem cont2_ne {L : List Att} {k : Txt} (h : cont2 L k ≠ []) : (k, cont2 L k) ∈ L := by
  unfold cont2 at h ⊢
  cases hf : L.find? (fun x => x.1 == k) with
  | none => rw [hf] at h; exact absurd rfl h
  | some b =>
    have h1 := List.mem_of_find?_eq_some hf
    have h2 : b.1 = k := by simpa using List.find?_some hf
    show (k, b.2) ∈ L
    rw [← h2]
    exact h1
theorem Good7.mem {L : List Att} (h : Good7 L) (a : Att) : a ∈ L ↔ a.2 = cont2 L a.1 ∧ a.2 ≠ [] := by
  constructor
  · intro ha
    exact ⟨(cont2_of h.1 ha).symm, h.2 a ha⟩
  · rintro ⟨h1, h2⟩
    have h3 := cont2_ne (L := L) (k := a.1) (by rw [← h1]; exact h2)
    rw [← h1] at h3
    exact h3
/-- Two entries that tell the same are the same. -/
theorem Good7.ext {L M : List Att} (h : Good7 L) (h2 : Good7 M) (he : ∀ k, cont2 L k = cont2 M k) : L = M :=
  nrise_same h.1 h2.1 (fun a => by rw [h.mem a, h2.mem a, he a.1])
theorem cont2_no {L : List Att} {k : Txt} (h : ∀ a ∈ L, a.1 ≠ k) : cont2 L k = [] := by
  unfold cont2
  have : L.find? (fun x => x.1 == k) = none := by
    rw [List.find?_eq_none]
    intro a ha
    simpa using h a ha
  rw [this]
  rfl

/-- An entry in which a name has other values, one round of it. -/
def stepS (n : Txt) (l : List Txt) (p : List Att × Bool) (a : Att) : List Att × Bool :=
  ((p.1 ++ (if (!p.2 && decide (n ≤ a.1)) = true then [(n, l)] else [])) ++ (if (a.1 == n) = true then [] else [a]), p.2 || decide (n ≤ a.1))
def preS (e : List Att) (n : Txt) (l : List Txt) : List Att × Bool := e.foldl (stepS n l) ([], l.isEmpty)
def setR (e : List Att) (n : Txt) (l : List Txt) : List Att := (preS e n l).1 ++ (if (preS e n l).2 = true then [] else [(n, l)])
theorem preS_snoc (e : List Att) (a : Att) (n : Txt) (l : List Txt) : preS (e ++ [a]) n l = stepS n l (preS e n l) a := by simp [preS]
theorem preS_is (n : Txt) (l : List Txt) : ∀ e, NRise e → NRise (preS e n l).1 ∧ (∀ a, a ∈ (preS e n l).1 ↔ (a ∈ e ∧ a.1 ≠ n) ∨ ((preS e n l).2 = true ∧ a = (n, l) ∧ l ≠ [])) ∧ ((preS e n l).2 = true ↔ l = [] ∨ ∃ a ∈ e, n ≤ a.1) := by
  refine snoc_ind ?_ ?_
  · intro _
    refine ⟨List.Pairwise.nil, fun a => ?_, by simp [preS]⟩
    simp only [preS, List.foldl_nil, List.not_mem_nil, false_and, false_or, false_iff, not_and]
    intro h _ h2
    exact h2 (by simpa using h)
  · intro e x ih hr
    unfold NRise at hr
    rw [List.pairwise_append] at hr
    obtain ⟨hr1, _, hr3⟩ := hr
    have hlx : ∀ y ∈ e, y.1 < x.1 := fun y hy => hr3 y hy x (by simp)
    obtain ⟨i1, i2, i3⟩ := ih hr1
    rw [preS_snoc]
    generalize preS e n l = q at i1 i2 i3 ⊢
    obtain ⟨out, done⟩ := q
    dsimp only at i1 i2 i3
    unfold stepS
    dsimp only
    cases done
    · have hl : l ≠ [] := fun e2 => absurd (i3.2 (.inl e2)) (by decide)
      have hno : ∀ y ∈ e, y.1 < n := fun y hy => by
        rcases Decidable.em (n ≤ y.1) with h | h
        · exact absurd (i3.2 (.inr ⟨y, hy, h⟩)) (by decide)
        · exact List.not_le.1 h
      have hout : ∀ y, y ∈ out ↔ y ∈ e := fun y => by
        rw [i2 y]
        simp only [Bool.false_eq_true, false_and, or_false]
        exact ⟨fun h => h.1, fun h => ⟨h, tx_ne (hno y h)⟩⟩
      by_cases hsx : n ≤ x.1
      · by_cases hxs : x.1 = n
        · have hb : (x.1 == n) = true := by simpa using hxs
          simp only [Bool.not_false, Bool.true_and, decide_eq_true hsx, if_true, hb, List.append_nil, Bool.or_true]
          refine ⟨?_, fun y => ?_, by simp only [true_iff]; exact .inr ⟨x, by simp, hsx⟩⟩
          · unfold NRise
            rw [List.pairwise_append]
            exact ⟨i1, by simp, fun y hy z hz => by rw [List.mem_singleton.1 hz]; exact hno y ((hout y).1 hy)⟩
          · rw [List.mem_append, hout, List.mem_append, List.mem_singleton, List.mem_singleton]
            constructor
            · rintro (h | h)
              · exact .inl ⟨.inl h, tx_ne (hno y h)⟩
              · exact .inr ⟨trivial, h, hl⟩
            · rintro (⟨h | h, h2⟩ | ⟨_, h, _⟩)
              · exact .inl h
              · rw [h] at h2; exact absurd hxs h2
              · exact .inr h
        · have hb : (x.1 == n) = false := by simpa using hxs
          have hlt : n < x.1 := tx_lt hsx (fun e => hxs e.symm)
          simp only [Bool.not_false, Bool.true_and, decide_eq_true hsx, if_true, hb, Bool.false_eq_true, if_false, Bool.or_true]
          refine ⟨?_, fun y => ?_, by simp only [true_iff]; exact .inr ⟨x, by simp, hsx⟩⟩
          · unfold NRise
            rw [List.pairwise_append, List.pairwise_append]
            refine ⟨⟨i1, by simp, fun y hy z hz => by rw [List.mem_singleton.1 hz]; exact hno y ((hout y).1 hy)⟩, by simp, fun y hy z hz => ?_⟩
            rw [List.mem_singleton.1 hz]
            rcases List.mem_append.1 hy with h | h
            · exact hlx y ((hout y).1 h)
            · rw [List.mem_singleton.1 h]; exact hlt
          · rw [List.mem_append, List.mem_append, hout, List.mem_append, List.mem_singleton, List.mem_singleton]
            constructor
            · rintro ((h | h) | h)
              · exact .inl ⟨.inl h, tx_ne (hno y h)⟩
              · exact .inr ⟨trivial, h, hl⟩
              · exact .inl ⟨.inr h, by rw [h]; exact hxs⟩
            · rintro (⟨h | h, h2⟩ | ⟨_, h, _⟩)
              · exact .inl (.inl h)
              · exact .inr h
              · exact .inl (.inr h)
      · have hlt : x.1 < n := List.not_le.1 hsx
        have hb : (x.1 == n) = false := by simpa using tx_ne hlt
        simp only [decide_eq_false hsx, Bool.and_false, Bool.false_eq_true, if_false, hb, List.append_nil, Bool.or_false]
        refine ⟨?_, fun y => ?_, ?_⟩
        · unfold NRise
          rw [List.pairwise_append]
          exact ⟨i1, by simp, fun y hy z hz => by rw [List.mem_singleton.1 hz]; exact hlx y ((hout y).1 hy)⟩
        · rw [List.mem_append, hout, List.mem_append, List.mem_singleton]
          simp only [false_and, or_false]
          constructor
          · rintro (h | h)
            · exact ⟨.inl h, tx_ne (hno y h)⟩
            · exact ⟨.inr h, by rw [h]; exact tx_ne hlt⟩
          · exact fun h => h.1
        · simp only [false_iff, not_or]
          refine ⟨hl, ?_⟩
          rintro ⟨y, hy, h⟩
          rcases List.mem_append.1 hy with h2 | h2
          · exact List.not_le.2 (hno y h2) h
          · rw [List.mem_singleton.1 h2] at h; exact hsx h
    · simp only [Bool.not_true, Bool.false_and, Bool.false_eq_true, if_false, List.append_nil, Bool.true_or]
      have hd := i3.1 rfl
      by_cases hxs : x.1 = n
      · have hb : (x.1 == n) = true := by simpa using hxs
        simp only [hb, if_true, List.append_nil]
        have hl : l = [] := by
          rcases hd with h | ⟨y, hy, h⟩
          · exact h
          · have := hlx y hy; rw [hxs] at this; exact absurd this (List.not_lt.2 h)
        refine ⟨i1, fun y => ?_, by simp only [true_iff]; exact .inl hl⟩
        rw [i2, List.mem_append, List.mem_singleton]
        constructor
        · rintro (h | h)
          · exact .inl ⟨.inl h.1, h.2⟩
          · exact .inr ⟨trivial, h.2⟩
        · rintro (⟨h | h, h2⟩ | h)
          · exact .inl ⟨h, h2⟩
          · rw [h] at h2; exact absurd hxs h2
          · exact .inr ⟨rfl, h.2⟩
      · have hb : (x.1 == n) = false := by simpa using hxs
        simp only [hb, Bool.false_eq_true, if_false]
        refine ⟨?_, fun y => ?_, ?_⟩
        · unfold NRise
          rw [List.pairwise_append]
          refine ⟨i1, by simp, fun y hy z hz => ?_⟩
          rw [List.mem_singleton.1 hz]
          rcases (i2 y).1 hy with h | ⟨_, h, h2⟩
          · exact hlx y h.1
          · rcases hd with h3 | ⟨y0, hy0, h3⟩
            · exact absurd h3 h2
            · rw [h]; exact tx_lelt h3 (hlx y0 hy0)
        · rw [List.mem_append, i2, List.mem_append, List.mem_singleton]
          constructor
          · rintro ((h | h) | h)
            · exact .inl ⟨.inl h.1, h.2⟩
            · exact .inr ⟨trivial, h.2⟩
            · exact .inl ⟨.inr h, by rw [h]; exact hxs⟩
          · rintro (⟨h | h, h2⟩ | h)
            · exact .inl (.inl ⟨h, h2⟩)
            · exact .inr h
            · exact .inl (.inr ⟨rfl, h.2⟩)
        · simp only [true_iff]
          rcases hd with h | ⟨y, hy, h⟩
          · exact .inl h
          · exact .inr ⟨y, List.mem_append.2 (.inl hy), h⟩
theorem setR_is {e : List Att} (n : Txt) (l : List Txt) (h : NRise e) : NRise (setR e n l) ∧ ∀ a, a ∈ setR e n l ↔ (a ∈ e ∧ a.1 ≠ n) ∨ (a = (n, l) ∧ l ≠ []) := by
  obtain ⟨h1, h2, h3⟩ := preS_is n l e h
  unfold setR
  generalize preS e n l = q at h1 h2 h3 ⊢
  obtain ⟨out, done⟩ := q
  dsimp only at h1 h2 h3 ⊢
  cases done
  · have hl : l ≠ [] := fun e2 => absurd (h3.2 (.inl e2)) (by decide)
    have hno : ∀ y ∈ e, y.1 < n := fun y hy => by
      rcases Decidable.em (n ≤ y.1) with h | h
      · exact absurd (h3.2 (.inr ⟨y, hy, h⟩)) (by decide)
      · exact List.not_le.1 h
    simp only [Bool.false_eq_true, if_false]
    refine ⟨?_, fun a => by rw [List.mem_append, h2, List.mem_singleton]; simp [hl]⟩
    unfold NRise
    rw [List.pairwise_append]
    refine ⟨h1, by simp, fun y hy z hz => ?_⟩
    rw [List.mem_singleton.1 hz]
    rcases (h2 y).1 hy with h9 | ⟨h9, _⟩
    · exact hno y h9.1
    · cases h9
  · simp only [if_true, List.append_nil]
    exact ⟨h1, fun a => by rw [h2]; simp⟩
theorem setR_good {e : List Att} (n : Txt) (l : List Txt) (h : Good7 e) : Good7 (setR e n l) := by
  obtain ⟨h1, h2⟩ := setR_is n l h.1
  refine ⟨h1, fun a ha => ?_⟩
  rcases (h2 a).1 ha with h3 | ⟨h3, h4⟩
  · exact h.2 a h3.1
  · rw [h3]; exact h4
theorem setR_cont {e : List Att} (n : Txt) (l : List Txt) (h : Good7 e) (k : Txt) : cont2 (setR e n l) k = if k = n then l else cont2 e k := by
  obtain ⟨h1, h2⟩ := setR_is n l h.1
  by_cases hk : k = n
  · subst hk
    rw [if_pos rfl]
    by_cases hl : l = []
    · rw [hl]
      refine cont2_no (fun a ha => ?_)
      rw [hl] at h2
      rcases (h2 a).1 ha with h3 | ⟨_, h3⟩
      · exact h3.2
      · exact absurd rfl h3
    · exact cont2_of h1 ((h2 (k, l)).2 (.inr ⟨rfl, hl⟩))
  · rw [if_neg hk]
    by_cases hc : cont2 e k = []
    · rw [hc]
      refine cont2_no (fun a ha hak => ?_)
      rcases (h2 a).1 ha with h3 | ⟨h3, _⟩
      · have h4 := cont2_of h.1 h3.1
        rw [hak, hc] at h4
        exact h.2 a h3.1 h4.symm
      · rw [h3] at hak
        exact hk hak.symm
    · exact cont2_of h1 ((h2 (k, cont2 e k)).2 (.inl ⟨cont2_ne hc, hk⟩))
theorem stepS_len (n : Txt) (l : List Txt) (p : List Att × Bool) (x : Att) : (stepS n l p x).1.length + (if (stepS n l p x).2 = true then 0 else 1) ≤ p.1.length + (if p.2 = true then 0 else 1) + 1 := by
  obtain ⟨out, done⟩ := p
  unfold stepS
  dsimp only
  cases done <;> by_cases h1 : n ≤ x.1 <;> cases h2 : x.1 == n <;> simp [h1]
theorem preS_len (n : Txt) (l : List Txt) : ∀ e, (preS e n l).1.length + (if (preS e n l).2 = true then 0 else 1) ≤ e.length + 1 := by
  refine snoc_ind (by cases l <;> simp [preS]) (fun e x ih => ?_)
  rw [preS_snoc]
  have := stepS_len n l (preS e n l) x
  simp only [List.length_append, List.length_singleton]
  omega
theorem setR_len (e : List Att) (n : Txt) (l : List Txt) : (setR e n l).length ≤ e.length + 1 := by
  have := preS_len n l e
  unfold setR
  cases h : (preS e n l).2 <;> simp [h] at this ⊢ <;> omega
end Go.Proofs.YtebocagkpkpghaaGreatDoor
/- entry: the document's Order, as words, is the program's. -/
namespace Go.Proofs.YtebocagkpkpghaaGreatDoor
open Go.RowKit Go.Shelf
set_option linter.unusedVariables false
set_option linter.unusedSimpArgs false

theorem gath_snoc (e : List Att) (a : Att) (k : Txt) : gath (e ++ [a]) k = if k = smallL a.1 then gath e k ++ a.2 else gath e k := by
  unfold gath
  rw [List.filter_append, List.flatMap_append]
  by_cases hk : k = smallL a.1
  · rw [if_pos hk]
    simp [hk]
  · rw [if_neg hk]
    have : (smallL a.1 == k) = false := by simpa using fun e => hk e.symm
    simp [this]
theorem ordS_mono {l m : List Txt} (h : ∀ x ∈ l, x ∈ m) : (ordS l).length ≤ (ordS m).length :=
  List.Nodup.length_le_of_subset (rise_nodup (ordS_is l).1) (fun x hx => ((ordS_is m).2 x).2 (h x (((ordS_is l).2 x).1 hx)))
theorem ordS_nil {l : List Txt} (h : ordS l = []) : l = [] := by
  cases l with
  | nil => rfl
  | cons a r =>
    have h1 := ((ordS_is (a :: r)).2 a).2 (by simp)
    rw [h] at h1
    cases h1
theorem ordS_none : ordS [] = [] := by
  have h := ordS_len []
  exact List.length_eq_zero_iff.1 (by simpa using h)
theorem ordE_good (e : List Att) : Good7 (ordE e) := by
  constructor
  · unfold NRise ordE
    rw [List.pairwise_map]
    exact (ordS_is _).1
  · intro a ha h
    unfold ordE at ha
    obtain ⟨k, hk, rfl⟩ := List.mem_map.1 ha
    unfold keysE at hk
    rw [(ordS_is _).2, List.mem_filter] at hk
    rw [ordS_nil h] at hk
    simp at hk
theorem ordE_cont (e : List Att) (k : Txt) : cont2 (ordE e) k = ordS (gath e k) := by
  by_cases hg : gath e k = []
  · rw [hg, ordS_none]
    refine cont2_no (fun a ha hak => ?_)
    unfold ordE at ha
    obtain ⟨k2, hk, rfl⟩ := List.mem_map.1 ha
    unfold keysE at hk
    rw [(ordS_is _).2, List.mem_filter] at hk
    dsimp only at hak
    rw [hak, hg] at hk
    simp at hk
  · have hm : (k, ordS (gath e k)) ∈ ordE e := by
      unfold ordE
      refine List.mem_map.2 ⟨k, ?_, rfl⟩
      unfold keysE
      rw [(ordS_is _).2, List.mem_filter]
      refine ⟨gath_in hg, ?_⟩
      cases h : gath e k with
      | nil => exact absurd h hg
      | cons x r => rfl
    exact cont2_of (ordE_good e).1 hm

/-- The document's Order, one attribute more. -/
def stepO (p : List Att × Bool) (a : Att) : List Att × Bool :=
  (setR p.1 (smallL a.1) (a.2.foldl withR (cont2 p.1 (smallL a.1))), p.2 || decide (16 < (a.2.foldl withR (cont2 p.1 (smallL a.1))).length))
def preO (l : List Att) : List Att × Bool := l.foldl stepO ([], false)
theorem preO_snoc (l : List Att) (a : Att) : preO (l ++ [a]) = stepO (preO l) a := by simp [preO]
theorem preO_is : ∀ l, Good7 (preO l).1 ∧ (∀ k, cont2 (preO l).1 k = ordS (gath l k)) ∧ ((preO l).2 = true ↔ ∃ k, 16 < (ordS (gath l k)).length) := by
  refine snoc_ind ?_ ?_
  · refine ⟨⟨List.Pairwise.nil, by simp [preO]⟩, fun k => ?_, ?_⟩
    · show [] = ordS []
      rw [ordS_none]
    · have hg : ∀ k, gath [] k = [] := fun k => rfl
      simp only [preO, List.foldl_nil, Bool.false_eq_true, false_iff, not_exists, hg, ordS_none]
      intro k h
      simp at h
  · intro l a ih
    obtain ⟨i1, i2, i3⟩ := ih
    rw [preO_snoc]
    unfold stepO
    have hv : a.2.foldl withR (cont2 (preO l).1 (smallL a.1)) = ordS (gath (l ++ [a]) (smallL a.1)) := by
      rw [i2, withs_ord, gath_snoc, if_pos rfl]
    rw [hv]
    dsimp only
    refine ⟨setR_good _ _ i1, fun k => ?_, ?_⟩
    · rw [setR_cont _ _ i1]
      by_cases hk : k = smallL a.1
      · rw [if_pos hk, hk]
      · rw [if_neg hk, i2, gath_snoc, if_neg hk]
    · rw [Bool.or_eq_true, i3, decide_eq_true_eq]
      constructor
      · rintro (⟨k, hk⟩ | h)
        · refine ⟨k, Nat.lt_of_lt_of_le hk (ordS_mono (fun x hx => ?_))⟩
          rw [gath_snoc]
          split
          · exact List.mem_append.2 (.inl hx)
          · exact hx
        · exact ⟨_, h⟩
      · rintro ⟨k, hk⟩
        by_cases hz : k = smallL a.1
        · rw [hz] at hk; exact .inr hk
        · rw [gath_snoc, if_neg hz] at hk
          exact .inl ⟨k, hk⟩
theorem preO_ord (l : List Att) : (preO l).1 = ordE l := by
  obtain ⟨h1, h2, _⟩ := preO_is l
  exact h1.ext (ordE_good l) (fun k => by rw [h2, ordE_cont])
theorem preO_long (l : List Att) : ((preO l).2 || decide (24 < (preO l).1.length)) = anyLong (ordE l) := by
  obtain ⟨_, _, h3⟩ := preO_is l
  rw [preO_ord]
  rw [Bool.eq_iff_iff, Bool.or_eq_true, h3, decide_eq_true_eq]
  unfold anyLong
  rw [List.any_eq_true]
  constructor
  · rintro (⟨k, hk⟩ | h)
    · have hc := ordE_cont l k
      have hm := cont2_ne (L := ordE l) (k := k) (fun e => by rw [← hc, e] at hk; simp at hk)
      refine ⟨_, hm, ?_⟩
      unfold longN
      rw [hc]
      simp [hk]
    · cases hE : ordE l with
      | nil => rw [hE] at h; simp at h
      | cons a r => exact ⟨a, by simp, by unfold longN; rw [← hE]; simp [h]⟩
  · rintro ⟨a, ha, h⟩
    unfold longN at h
    simp only [Bool.or_eq_true, decide_eq_true_eq] at h
    rcases h with h | h
    · exact .inr h
    · refine .inl ⟨a.1, ?_⟩
      rw [← ordE_cont, cont2_of (ordE_good l).1 ha]
      exact h
def rorderP (l : List Att) : List Att × Nat :=
  if l.all (fun a => maybeA a.1 a.2) = true then (if ((preO l).2 || decide (24 < (preO l).1.length)) = true then ([], 3) else ((preO l).1, 0)) else ([], 2)
theorem rorder_eq (l : List Att) : rorderP l = orderP l := by
  unfold rorderP orderP
  rw [preO_long, preO_ord]
end Go.Proofs.YtebocagkpkpghaaGreatDoor
/- entry: the document's one change, as words, and that it is the program's. -/
namespace Go.Proofs.YtebocagkpkpghaaGreatDoor
open Go.RowKit Go.Shelf
set_option linter.unusedVariables false
set_option linter.unusedSimpArgs false

theorem lt_before : ∀ a b : Txt, a < b → bytesBefore a b = true
  | [], [], h => absurd h (tx_irr _)
  | [], b :: s, _ => rfl
  | a :: r, [], h => absurd (List.nil_lt_cons a r) (List.not_lt.2 (tx_le h))
  | a :: r, b :: s, h => by
    rw [List.cons_lt_cons_iff] at h
    simp only [bytesBefore, Bool.or_eq_true, Bool.and_eq_true, decide_eq_true_eq, beq_iff_eq]
    rcases h with h | ⟨h, h3⟩
    · exact .inl h
    · exact .inr ⟨h, lt_before r s h3⟩
theorem adel2_good {L : List Att} (k : Txt) (h : Good7 L) : Good7 (adel2 L k) :=
  ⟨h.1.filter _, fun a ha => h.2 a (List.mem_filter.1 ha).1⟩
theorem adel2_mem {L : List Att} {k : Txt} {a : Att} : a ∈ adel2 L k ↔ a ∈ L ∧ a.1 ≠ k := by
  unfold adel2
  rw [List.mem_filter]
  simp
theorem ains2_rise {x : Att} : ∀ {L : List Att}, NRise L → (∀ a ∈ L, a.1 ≠ x.1) → NRise (ains2 x L)
  | [], _, _ => by unfold NRise ains2; simp
  | y :: r, h, hn => by
    have h' := List.pairwise_cons.1 h
    unfold ains2
    split
    · rename_i hb
      have hxy := before_lt _ _ hb
      unfold NRise
      rw [List.pairwise_cons]
      refine ⟨fun a ha => ?_, h⟩
      rcases List.mem_cons.1 ha with e | m
      · rw [e]; exact hxy
      · exact tx_tr hxy (h'.1 a m)
    · rename_i hb
      have hyx : y.1 < x.1 := by
        refine tx_lt (tx_not (fun h2 => hb (lt_before _ _ h2))) (hn y (by simp))
      unfold NRise
      rw [List.pairwise_cons]
      refine ⟨fun a ha => ?_, ains2_rise h'.2 (fun a ha => hn a (List.mem_cons_of_mem _ ha))⟩
      rcases ains2_mem.1 ha with e | m
      · rw [e]; exact hyx
      · exact h'.1 a m
theorem aput2_good {L : List Att} {x : Att} (h : Good7 L) (hx : x.2 ≠ []) : Good7 (aput2 L x) := by
  refine ⟨ains2_rise (adel2_good x.1 h).1 (fun a ha => (adel2_mem.1 ha).2), fun a ha => ?_⟩
  unfold aput2 at ha
  rcases ains2_mem.1 ha with e | m
  · rw [e]; exact hx
  · exact h.2 a (adel2_mem.1 m).1
theorem cont2_but {L M : List Att} (h : Good7 L) (h2 : Good7 M) (n : Txt) (hm : ∀ a, a.1 ≠ n → (a ∈ M ↔ a ∈ L)) {k : Txt} (hk : k ≠ n) : cont2 M k = cont2 L k := by
  by_cases hc : cont2 L k = []
  · rw [hc]
    refine cont2_no (fun a ha hak => ?_)
    have h3 := (hm a (by rw [hak]; exact hk)).1 ha
    have h4 := cont2_of h.1 h3
    rw [hak, hc] at h4
    exact h.2 a h3 h4.symm
  · exact cont2_of h2.1 ((hm (k, cont2 L k) hk).2 (cont2_ne hc))
theorem adel2_cont {L : List Att} {n : Txt} (h : Good7 L) (k : Txt) : cont2 (adel2 L n) k = if k = n then [] else cont2 L k := by
  by_cases hk : k = n
  · rw [if_pos hk]
    exact cont2_no (fun a ha e => (adel2_mem.1 ha).2 (e.trans hk))
  · rw [if_neg hk]
    exact cont2_but h (adel2_good n h) n (fun a ha => by rw [adel2_mem]; exact ⟨fun h => h.1, fun h => ⟨h, ha⟩⟩) hk
theorem aput2_cont {L : List Att} {x : Att} (h : Good7 L) (hx : x.2 ≠ []) (k : Txt) : cont2 (aput2 L x) k = if k = x.1 then x.2 else cont2 L k := by
  have hg := aput2_good h hx
  by_cases hk : k = x.1
  · rw [if_pos hk, hk]
    exact cont2_of hg.1 (ains2_mem.2 (.inl rfl))
  · rw [if_neg hk]
    refine cont2_but h hg x.1 (fun a ha => ?_) hk
    unfold aput2
    rw [ains2_mem, adel2_mem]
    constructor
    · rintro (e | e)
      · rw [e] at ha; exact absurd rfl ha
      · exact e.1
    · exact fun h => .inr ⟨h, ha⟩
theorem outE_good {L : List Att} (h : Good7 L) : Good7 (outE L) := by
  constructor
  · unfold NRise outE
    rw [List.pairwise_map]
    exact h.1
  · intro a ha he
    unfold outE at ha
    obtain ⟨b, hb, rfl⟩ := List.mem_map.1 ha
    exact h.2 b hb (ordS_nil he)
theorem outE_cont (L : List Att) (k : Txt) : cont2 (outE L) k = ordS (cont2 L k) := by
  unfold cont2 outE
  rw [List.find?_map]
  cases h : L.find? (fun a => a.1 == k) with
  | none =>
    have : List.find? ((fun a : Att => a.1 == k) ∘ fun a : Att => (a.1, ordS a.2)) L = none := h
    rw [this]
    exact ordS_none.symm
  | some a =>
    have : List.find? ((fun a : Att => a.1 == k) ∘ fun a : Att => (a.1, ordS a.2)) L = some a := h
    rw [this]
    rfl

/-- A table, and the entry that the document has in its place. -/
structure Sim7 (L E : List Att) : Prop where
  tab : Good7 L
  ent : Good7 E
  con : ∀ k, cont2 E k = ordS (cont2 L k)
  nod : ∀ k, (cont2 L k).Nodup
theorem Sim7.out {L E : List Att} (h : Sim7 L E) : outE L = E := (outE_good h.tab).ext h.ent (fun k => by rw [outE_cont, h.con])
theorem Sim7.len {L E : List Att} (h : Sim7 L E) : E.length = L.length := by rw [← h.out]; simp [outE]

/-- Is one there twice? -/
def twiceR (l : List Txt) : Bool := !decide l.Nodup
/-- The document's one change, of values that were there. -/
def nowR (k : Nat) (has told : List Txt) : List Txt × Nat :=
  if k = 1 then (if twiceR (has ++ told) = true then ([], 170) else (told.foldl withR has, 0))
  else if k = 2 then
    (if (decide (told = []) && decide (has = []) || twiceR told) = true then ([], 171)
     else if told.all (fun v => has.contains v) = false then ([], 171)
     else (if told = [] then [] else has.filter (fun v => !told.contains v), 0))
  else (told.foldl withR [], 0)
theorem nodup_ord {had : List Txt} (h : had.Nodup) (told : List Txt) : (ordS had ++ told).Nodup ↔ (had ++ told).Nodup := by
  rw [List.nodup_append, List.nodup_append]
  constructor
  · rintro ⟨_, h2, h3⟩
    exact ⟨h, h2, fun a ha b hb => h3 a (((ordS_is had).2 a).2 ha) b hb⟩
  · rintro ⟨_, h2, h3⟩
    exact ⟨rise_nodup (ordS_is had).1, h2, fun a ha b hb => h3 a (((ordS_is had).2 a).1 ha) b hb⟩
theorem filter_split {α : Type} (p : α → Bool) : ∀ l : List α, (l.filter p).length + (l.filter fun x => !p x).length = l.length
  | [] => rfl
  | a :: r => by
    have := filter_split p r
    cases h : p a <;> simp [h] <;> omega
theorem remove_says {had told : List Txt} (h : had.Nodup) (ht : told ≠ []) : had.length - (stayP told had).length < max told.length 1 ↔ ¬ told.Nodup ∨ ∃ v ∈ told, v ∉ had := by
  have h1 := filter_split (goesP told) had
  have h1' : had.length - (stayP told had).length = (had.filter (goesP told)).length := by unfold stayP; omega
  rw [h1']
  have hm : max told.length 1 = told.length := by
    cases told with
    | nil => exact absurd rfl ht
    | cons a r => simp only [List.length_cons]; omega
  rw [hm]
  have hg : ∀ x, x ∈ had.filter (goesP told) ↔ x ∈ had ∧ x ∈ told := fun x => by
    rw [List.mem_filter]
    unfold goesP
    cases told with
    | nil => exact absurd rfl ht
    | cons a r => simp
  have hgn : (had.filter (goesP told)).Nodup := h.filter _
  constructor
  · intro hlt
    rcases Decidable.em (∃ v ∈ told, v ∉ had) with h2 | h2
    · exact .inr h2
    · left
      intro hn
      have h3 : told.length ≤ (had.filter (goesP told)).length := List.Nodup.length_le_of_subset hn (fun x hx => by
        rw [hg]
        refine ⟨?_, hx⟩
        rcases Decidable.em (x ∈ had) with h4 | h4
        · exact h4
        · exact absurd ⟨x, hx, h4⟩ h2)
      omega
  · intro h2
    rcases Decidable.em ((had.filter (goesP told)).length < told.length) with h3 | h3
    · exact h3
    · exfalso
      have hle : (had.filter (goesP told)).length ≤ (ordS told).length := List.Nodup.length_le_of_subset hgn (fun x hx => ((ordS_is told).2 x).2 ((hg x).1 hx).2)
      rcases h2 with h2 | ⟨v, hv, hvn⟩
      · have := ordS_dup h2
        omega
      · have h5 : (v :: had.filter (goesP told)).Nodup := by
          rw [List.nodup_cons]
          exact ⟨fun h6 => hvn ((hg v).1 h6).1, hgn⟩
        have h6 : (v :: had.filter (goesP told)).length ≤ (ordS told).length := List.Nodup.length_le_of_subset h5 (fun x hx => by
          rw [(ordS_is told).2]
          rcases List.mem_cons.1 hx with e | m
          · rw [e]; exact hv
          · exact ((hg x).1 m).2)
        have h7 := ordS_len told
        simp only [List.length_cons] at h6
        omega
/-- What the program makes of the values, and the document, is the same. -/
theorem now_is (k : Nat) (hk : 1 ≤ k ∧ k ≤ 3) {had : List Txt} (h : had.Nodup) (told : List Txt) :
    (deedP k had told).2 = (nowR k (ordS had) told).2 ∧ ((deedP k had told).2 = 0 → (deedP k had told).1.Nodup ∧ ordS (deedP k had told).1 = (nowR k (ordS had) told).1) := by
  unfold deedP nowR
  by_cases h1 : k = 1
  · rw [if_pos h1, if_pos h1]
    unfold addP twiceR
    have hd : decide ((ordS had ++ told).Nodup) = decide ((had ++ told).Nodup) := by rw [decide_eq_decide]; exact nodup_ord h told
    rw [hd]
    by_cases hn : (had ++ told).Nodup
    · rw [if_neg (by rw [ordS_nodup hn]; omega)]
      simp only [decide_eq_true hn, Bool.not_true, Bool.false_eq_true, if_false]
      exact ⟨trivial, fun _ => ⟨hn, by rw [withs_ord]⟩⟩
    · rw [if_pos (ordS_dup hn)]
      simp [hn]
  · rw [if_neg h1, if_neg h1]
    by_cases h2 : k = 2
    · rw [if_pos h2, if_pos h2]
      unfold removeP
      by_cases ht : told = []
      · subst ht
        have hst : stayP [] had = [] := by unfold stayP goesP; simp
        rw [hst]
        cases had with
        | nil =>
          rw [ordS_none]
          simp
        | cons a r =>
          have hne : ordS (a :: r) ≠ [] := fun e => by have := ordS_nil e; cases this
          simp only [List.length_cons, List.length_nil, Nat.sub_zero, hne, decide_false, Bool.and_false, Bool.false_or, twiceR, List.nodup_nil, decide_true, Bool.not_true, Bool.false_eq_true, if_false, List.all_nil, if_true, reduceCtorEq]
          rw [if_neg (by omega)]
          exact ⟨rfl, fun _ => ⟨List.nodup_nil, ordS_none⟩⟩
      · have hrs := remove_says h ht
        by_cases hr : ¬ told.Nodup ∨ ∃ v ∈ told, v ∉ had
        · rw [if_pos (hrs.2 hr)]
          rcases hr with hr | ⟨v, hv, hvn⟩
          · rw [if_pos (by simp [twiceR, hr])]
            exact ⟨rfl, fun h9 => absurd h9 (by decide)⟩
          · split
            · exact ⟨rfl, fun h9 => absurd h9 (by decide)⟩
            · rw [if_pos (by rw [List.all_eq_false]; exact ⟨v, hv, by simp [(ordS_is had).2, hvn]⟩)]
              exact ⟨rfl, fun h9 => absurd h9 (by decide)⟩
        · rw [if_neg (fun h9 => hr (hrs.1 h9))]
          rw [not_or, Decidable.not_not] at hr
          obtain ⟨hr1, hr2⟩ := hr
          rw [if_neg (by simp [twiceR, hr1, ht]), if_neg (by
            rw [Bool.not_eq_false, List.all_eq_true]
            intro v hv
            rcases Decidable.em (v ∈ had) with h4 | h4
            · simpa [(ordS_is had).2] using h4
            · exact absurd ⟨v, hv, h4⟩ hr2), if_neg ht]
          refine ⟨rfl, fun _ => ⟨h.filter _, ?_⟩⟩
          refine rise_same (ordS_is _).1 ((ordS_is had).1.filter _) (fun x => ?_)
          rw [(ordS_is _).2, List.mem_filter, (ordS_is had).2]
          unfold stayP goesP
          rw [List.mem_filter]
          cases told with
          | nil => exact absurd rfl ht
          | cons a r => simp
    · rw [if_neg h2, if_neg h2]
      unfold replaceP
      have h9 := withs_ord told []
      rw [ordS_none, List.nil_append] at h9
      rw [h9]
      exact ⟨rfl, fun _ => ⟨rise_nodup (ordS_is told).1, ordS_rise (ordS_is told).1⟩⟩
/-- The document's one change. -/
def oneR (E : List Att) (k : Nat) (z : Txt) (told : List Txt) : List Att × Nat :=
  if (nowR k (cont2 E z) told).2 ≠ 0 then ([], (nowR k (cont2 E z) told).2) else
  if (decide (16 < (nowR k (cont2 E z) told).1.length) || decide (24 < (setR E z (nowR k (cont2 E z) told).1).length)) = true then ([], 3) else (setR E z (nowR k (cont2 E z) told).1, 0)
theorem one_is {L E : List Att} (h : Sim7 L E) (k : Nat) (hk : 1 ≤ k ∧ k ≤ 3) (z : Txt) (told : List Txt) :
    (changeT L k z told).2 = (oneR E k z told).2 ∧ ((changeT L k z told).2 = 0 → Sim7 (changeT L k z told).1 (oneR E k z told).1) := by
  obtain ⟨h1, h2⟩ := now_is k hk (h.nod z) told
  rw [← h.con z] at h1 h2
  unfold changeT oneR
  rw [← h1]
  by_cases hd : (deedP k (cont2 L z) told).2 ≠ 0
  · rw [if_pos hd, if_pos hd]
    exact ⟨rfl, fun h9 => absurd h9 hd⟩
  · rw [if_neg hd, if_neg hd]
    obtain ⟨h3, h4⟩ := h2 (Decidable.not_not.1 hd)
    obtain ⟨d, hdd⟩ : ∃ d, (deedP k (cont2 L z) told).1 = d := ⟨_, rfl⟩
    rw [hdd] at h3 h4
    rw [hdd, ← h4]
    dsimp only
    obtain ⟨L', hL'⟩ : ∃ L', (if d.length = 0 then adel2 L z else aput2 L (z, d)) = L' := ⟨_, rfl⟩
    rw [hL']
    have hS : Sim7 L' (setR E z (ordS d)) := by
      rw [← hL']
      by_cases h0 : d.length = 0
      · rw [if_pos h0]
        have hdn : d = [] := List.length_eq_zero_iff.1 h0
        subst hdn
        refine ⟨adel2_good z h.tab, setR_good _ _ h.ent, fun k2 => ?_, fun k2 => ?_⟩
        · rw [setR_cont _ _ h.ent, adel2_cont h.tab]
          split
          · rfl
          · exact h.con k2
        · rw [adel2_cont h.tab]
          split
          · exact List.nodup_nil
          · exact h.nod k2
      · rw [if_neg h0]
        have hdn : d ≠ [] := fun e => h0 (by rw [e]; rfl)
        refine ⟨aput2_good h.tab hdn, setR_good _ _ h.ent, fun k2 => ?_, fun k2 => ?_⟩
        · rw [setR_cont _ _ h.ent, aput2_cont h.tab hdn]
          dsimp only
          split
          · rfl
          · exact h.con k2
        · rw [aput2_cont h.tab hdn]
          dsimp only
          split
          · exact h3
          · exact h.nod k2
    rw [ordS_nodup h3, hS.len]
    have hc : longN L'.length d.length = (decide (16 < d.length) || decide (24 < L'.length)) := by
      unfold longN
      exact Bool.or_comm _ _
    rw [hc]
    split
    · exact ⟨rfl, fun h9 => absurd h9 (by decide)⟩
    · exact ⟨rfl, fun _ => hS⟩
/-- The document's Do, from some change on. -/
def rdoGo : List Att → List Chg7 → List Att × Nat
  | E, [] => (E, 0)
  | E, m :: r => if (oneR E m.1.toNat (smallL m.2.1) m.2.2).2 ≠ 0 then ([], (oneR E m.1.toNat (smallL m.2.1) m.2.2).2) else rdoGo (oneR E m.1.toNat (smallL m.2.1) m.2.2).1 r
def rdoP (e : List Att) (l : List Chg7) : List Att × Nat :=
  if entOk e = false then ([], 2) else if l.all (fun m => modOk m.1 m.2.1 m.2.2) = false then ([], 2) else rdoGo e l
theorem go_same : ∀ (l : List Chg7) {L E : List Att}, Sim7 L E → (∀ m ∈ l, modOk m.1 m.2.1 m.2.2 = true) → rdoGo E l = doGo L l
  | [], L, E, h, _ => by
    unfold rdoGo doGo
    rw [h.out]
  | m :: r, L, E, h, hm => by
    obtain ⟨k, hk1, hk2, hk3⟩ := mod_kind (hm m (by simp))
    have hkn : m.1.toNat = k := by omega
    obtain ⟨h1, h2⟩ := one_is h k ⟨hk2, hk3⟩ (smallL m.2.1) m.2.2
    unfold rdoGo doGo
    rw [hkn, ← h1]
    split
    · rfl
    · rename_i h3
      exact go_same r (h2 (Decidable.not_not.1 h3)) (fun x hx => hm x (List.mem_cons_of_mem _ hx))
theorem entOk_good {e : List Att} (h : entOk e = true) : Good7 e ∧ (∀ a ∈ e, a.1 = smallL a.1 ∧ Rise a.2) := by
  unfold entOk at h
  rw [Bool.and_eq_true, List.all_eq_true] at h
  obtain ⟨h1, h2⟩ := h
  have hr : Rise (namesT e) := by
    have : namesT e = ordS (namesT e) := by simpa using h2
    rw [this]
    exact (ordS_is _).1
  refine ⟨⟨?_, fun a ha he => ?_⟩, fun a ha => ?_⟩
  · unfold Rise namesT at hr
    rw [List.pairwise_map] at hr
    exact hr
  · have := h1 a ha
    unfold oneOk attrOk at this
    rw [he] at this
    simp at this
  · have := h1 a ha
    unfold oneOk attrOk at this
    simp only [Bool.and_eq_true, beq_iff_eq] at this
    obtain ⟨_, _, h4, _, h5⟩ := this
    refine ⟨h4, ?_⟩
    rw [h5]
    exact (ordS_is _).1
theorem gath_good {e : List Att} (h : NRise e) (hs : ∀ a ∈ e, a.1 = smallL a.1) (k : Txt) : gath e k = cont2 e k := by
  have hf : e.filter (fun a => smallL a.1 == k) = e.filter (fun a => a.1 == k) := List.filter_congr (fun a ha => by rw [← hs a ha])
  unfold gath
  rw [hf]
  clear hf hs
  induction e with
  | nil => rfl
  | cons y r ih =>
    have h' := List.pairwise_cons.1 h
    by_cases hk : y.1 = k
    · have hr : r.filter (fun a => a.1 == k) = [] := by
        rw [List.filter_eq_nil_iff]
        intro a ha he
        have := h'.1 a ha
        rw [hk] at this
        exact tx_ne this (by simpa using he : a.1 = k).symm
      unfold cont2
      simp [hk, hr]
    · have ih' := ih h'.2
      unfold cont2 at ih' ⊢
      have hb : (y.1 == k) = false := by simpa using hk
      rw [List.filter_cons_of_neg (by simp [hb]), List.find?_cons_of_neg (by simp [hb])]
      exact ih'
theorem tabE_good (e : List Att) : Good7 (tabE e) ∧ ∀ k, cont2 (tabE e) k = gath e k := by
  have h1 : outE (tabE e) = ordE e := by
    unfold outE tabE ordE
    rw [List.map_map]
    rfl
  have h2 := ordE_good e
  rw [← h1] at h2
  have hr : NRise (tabE e) := by
    have := h2.1
    unfold NRise outE at this
    rw [List.pairwise_map] at this
    exact this
  have hg : Good7 (tabE e) := ⟨hr, fun a ha he => h2.2 (a.1, ordS a.2) (by unfold outE; exact List.mem_map.2 ⟨a, ha, rfl⟩) (by show ordS a.2 = []; rw [he]; exact ordS_none)⟩
  refine ⟨hg, fun k => ?_⟩
  by_cases hk : gath e k = []
  · rw [hk]
    refine cont2_no (fun a ha hak => ?_)
    have h3 := hg.2 a ha
    unfold tabE at ha
    obtain ⟨k2, _, rfl⟩ := List.mem_map.1 ha
    dsimp only at hak h3
    rw [hak] at h3
    exact h3 hk
  · have hm : (k, gath e k) ∈ tabE e := by
      unfold tabE
      refine List.mem_map.2 ⟨k, ?_, rfl⟩
      unfold keysE
      rw [(ordS_is _).2, List.mem_filter]
      refine ⟨gath_in hk, ?_⟩
      cases h : gath e k with
      | nil => exact absurd h hk
      | cons x r => rfl
    exact cont2_of hr hm
theorem sim_of {e : List Att} (h : entOk e = true) : Sim7 (tabE e) e := by
  obtain ⟨h1, h2⟩ := entOk_good h
  obtain ⟨h3, h4⟩ := tabE_good e
  have hc : ∀ k, cont2 (tabE e) k = cont2 e k := fun k => by rw [h4, gath_good h1.1 (fun a ha => (h2 a ha).1)]
  have hr : ∀ k, Rise (cont2 e k) := fun k => by
    by_cases hk : cont2 e k = []
    · rw [hk]; exact List.Pairwise.nil
    · exact (h2 _ (cont2_ne hk)).2
  exact ⟨h3, h1, fun k => by rw [hc, ordS_rise (hr k)], fun k => by rw [hc]; exact rise_nodup (hr k)⟩
theorem rdo_eq (e : List Att) (l : List Chg7) : rdoP e l = doP e l := by
  unfold rdoP doP
  cases h : entOk e with
  | false => rfl
  | true =>
    simp only [Bool.true_eq_false, if_false]
    cases h2 : l.all (fun m => modOk m.1 m.2.1 m.2.2) with
    | false => rfl
    | true =>
      simp only [Bool.true_eq_false, if_false]
      exact go_same l (sim_of h) (fun m hm => List.all_eq_true.1 h2 m hm)
end Go.Proofs.YtebocagkpkpghaaGreatDoor
