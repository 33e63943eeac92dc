/- Texts of one proof, laid together: N50. -/
import Derived.Test.YtjnibkgbcgpigaaDoorM20
import Derived.Test.YtjnibkgbcgpigaaDoorM22
/- dn: two names have the same key just if they are alike: as words. -/
namespace Go.Proofs.YtjnibkgbcgpigaaDoor
open Go.RowKit Go.Shelf
set_option linter.unusedVariables false
set_option linter.unusedSimpArgs false
set_option maxRecDepth 100000

def lowD (d : List Part6) : List Part6 := d.map fun p => (p.1, smallL p.2)
theorem small_plain : ∀ n : Fin 256, plain1 (small1 (UInt8.ofNat n.val)) = plain1 (UInt8.ofNat n.val) ∧ mark6 (small1 (UInt8.ofNat n.val)).toNat = mark6 n.val ∧ (plain1 (UInt8.ofNat n.val) = false → small1 (UInt8.ofNat n.val) = UInt8.ofNat n.val) := by decide +kernel
theorem hexd_small : ∀ n : Fin 16, small1 (hexd n.val) = hexd n.val := by decide +kernel
theorem esc_small (i N : Nat) (c : UInt8) : smallL (esc6 i N c) = esc6 i N (small1 c) := by
  have hc : c.toNat < 256 := c.toNat_lt
  obtain ⟨h1, h2, h3⟩ := small_plain ⟨c.toNat, hc⟩
  simp only [UInt8.ofNat_toNat] at h1 h2 h3
  unfold esc6
  rw [h1, h2]
  cases hp : plain1 c with
  | false =>
    rw [h3 hp]
    have e1 := hexd_small ⟨c.toNat / 16, by omega⟩
    have e2 := hexd_small ⟨c.toNat % 16, by omega⟩
    simp only at e1 e2
    simp only [if_true, smallL, List.map_cons, List.map_nil, e1, e2]
    rfl
  | true =>
    simp only [Bool.true_eq_false, if_false]
    split
    · simp only [smallL, List.map_cons, List.map_nil]
      rfl
    · rfl
theorem text_small (N : Nat) : ∀ (v : List UInt8) (i : Nat), smallL (text6 N i v) = text6 N i (smallL v)
  | [], _ => rfl
  | c :: v, i => by
    have ih := text_small N v (i + 1)
    have e : smallL (c :: v) = small1 c :: smallL v := rfl
    rw [e, text6, text6, ← esc_small, ← ih]
    simp [smallL]
theorem part_small {p : Part6} (h : partOk p = true) : smallL (partT p) = partT (p.1, smallL p.2) := by
  have ht : typeOk p.1 = true := by unfold partOk at h; simp only [Bool.and_eq_true] at h; exact h.1
  unfold partT
  have e : ∀ a b c : List UInt8, smallL (a ++ b ++ c) = smallL a ++ smallL b ++ smallL c := fun a b c => by simp [smallL]
  rw [e, typeOk_small ht, text_small, smallL_len]
  rfl
theorem tail_small : ∀ (d : List Part6), (∀ p ∈ d, partOk p = true) → smallL (Lib.joinTail [44] (d.map partT)) = Lib.joinTail [44] ((lowD d).map partT)
  | [], _ => rfl
  | p :: r, h => by
    have ih := tail_small r fun q hq => h q (by simp [hq])
    have hp := part_small (h p (by simp))
    unfold Lib.joinTail lowD at *
    simp only [List.map_cons, List.flatten_cons] at *
    have e : ∀ a b : List UInt8, smallL (a ++ b) = smallL a ++ smallL b := fun a b => by simp [smallL]
    rw [e, e, ih, hp]
    rfl
theorem dn_small {d : List Part6} (h : nameOk d = true) : smallL (dnT d) = dnT (lowD d) := by
  unfold nameOk at h
  simp only [Bool.and_eq_true, decide_eq_true_eq, List.all_eq_true] at h
  cases d with
  | nil => rfl
  | cons p r =>
    have h1 := tail_small r fun q hq => h.2 q (by simp [hq])
    have h2 := part_small (h.2 p (by simp))
    have e0 : lowD (p :: r) = (p.1, smallL p.2) :: lowD r := rfl
    unfold dnT
    rw [e0, List.map_cons, List.map_cons, Lib.join_cons, Lib.join_cons]
    have e : ∀ a b : List UInt8, smallL (a ++ b) = smallL a ++ smallL b := fun a b => by simp [smallL]
    rw [e, h1, h2]
theorem low_ok (d : List Part6) : nameOk (lowD d) = nameOk d := by
  have h : ∀ d : List Part6, (lowD d).all partOk = d.all partOk := fun d => by
    unfold lowD
    rw [List.all_map]
    congr 1
    funext p
    simp [partOk, smallL_len]
  unfold nameOk
  rw [h]
  simp [lowD]
theorem low_alike : ∀ (a b : List Part6), (lowD a == lowD b) = (decide (a.length = b.length) && alikeR a b)
  | [], [] => rfl
  | [], q :: s => by simp [lowD]
  | p :: r, [] => by simp [lowD]
  | p :: r, q :: s => by
    have ih := low_alike r s
    have e1 : lowD (p :: r) = (p.1, smallL p.2) :: lowD r := rfl
    have e2 : lowD (q :: s) = (q.1, smallL q.2) :: lowD s := rfl
    have e3 : alikeR (p :: r) (q :: s) = (alikeP p q && alikeR r s) := by simp [alikeR]
    have e4 : (((p.1, smallL p.2) :: lowD r) == ((q.1, smallL q.2) :: lowD s)) = (alikeP p q && (lowD r == lowD s)) := rfl
    rw [e1, e2, e3, e4, ih]
    simp only [List.length_cons, Nat.add_right_cancel_iff]
    cases alikeP p q <;> cases alikeR r s <;> cases decide (r.length = s.length) <;> rfl
theorem key_alike {a b : List Part6} (ha : nameOk a = true) (hb : nameOk b = true) : (smallL (dnT a) == smallL (dnT b)) = alikeD a b := by
  have hv : alikeD a b = (lowD a == lowD b) := by
    rw [low_alike]
    unfold alikeD
    rw [ha, hb]
    rfl
  rw [hv, dn_small ha, dn_small hb, Bool.eq_iff_iff, beq_iff_eq, beq_iff_eq]
  constructor
  · intro h
    have h1 := parse_text (d := lowD a) (by rw [low_ok]; exact ha)
    have h2 := parse_text (d := lowD b) (by rw [low_ok]; exact hb)
    rw [h, h2] at h1
    injection h1 with h1
    exact h1.symm
  · intro h
    rw [h]
theorem alike_comm (a b : List Part6) : alikeD b a = alikeD a b := by
  have hp : ∀ a b : List Part6, (lowD a == lowD b) = (lowD b == lowD a) := fun a b => by
    rw [Bool.eq_iff_iff, beq_iff_eq, beq_iff_eq]
    exact eq_comm
  unfold alikeD
  rw [← low_alike, ← low_alike, hp b a, Bool.and_comm (nameOk b)]

end Go.Proofs.YtjnibkgbcgpigaaDoor
