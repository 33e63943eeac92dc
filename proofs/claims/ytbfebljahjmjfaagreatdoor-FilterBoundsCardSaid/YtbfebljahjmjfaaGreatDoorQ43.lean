import Derived.Test.YtbfebljahjmjfaaGreatDoorQ39
import Derived.BigQuiet
/- filter: what the words of reading and laying say of one another. -/
namespace Go.Proofs.YtbfebljahjmjfaaGreatDoor
open Go.RowKit Go.Shelf
set_option linter.unusedVariables false
set_option linter.unusedSimpArgs false
set_option maxRecDepth 100000

mutual
/-- A filter of many, and of having one: as FilterBounds makes them. -/
def hasF : FV → Bool
 | .mk k l s v => (k == 6 && l.isEmpty && v.isEmpty) || ((k == 1 || k == 2 || k == 3) && s.isEmpty && v.isEmpty && hasL l)
def hasL : List FV → Bool
 | [] => true
 | t :: r => hasF t && hasL r
end
theorem hasF_cases {k : Int} {l : List FV} {s v : Txt} (h : hasF (.mk k l s v) = true) : (k = 6 ∧ l = [] ∧ v = []) ∨ ((k = 1 ∨ k = 2 ∨ k = 3) ∧ s = [] ∧ v = [] ∧ hasL l = true) := by
 simp only [hasF, Bool.or_eq_true, Bool.and_eq_true, beq_iff_eq, List.isEmpty_iff] at h
 rcases h with ⟨⟨h1, h2⟩, h3⟩ | ⟨⟨⟨h1, h2⟩, h3⟩, h4⟩
 ·exact .inl ⟨h1, h2, h3⟩
 ·exact .inr ⟨by omega, h2, h3, h4⟩
theorem kindN_of {k : Int} (h : k = 1 ∨ k = 2 ∨ k = 3) : kindN (k - 1).toNat = k ∧ (k - 1).toNat ≤ 2 := by
 rcases h with rfl | rfl | rfl <;> exact ⟨rfl, by decide⟩
mutual
theorem has_mild : ∀ t : FV, hasF t = true → mildF t = true ∧ mildB (valF t) = true
 | .mk k l s v, h => by
  rcases hasF_cases h with ⟨rfl, rfl, rfl⟩ | ⟨hk, rfl, rfl, hl⟩
  ·exact ⟨by simp [mildF, mildL], by simp [valF, valK, mildB, mildBL]⟩
  ·have h9 := has_mildL l hl
   obtain ⟨_, h8⟩ := kindN_of hk
   refine ⟨?_, ?_⟩
   ·simp only [mildF, Bool.and_eq_true, bne_iff_ne, ne_eq]
    exact ⟨⟨by omega, by omega⟩, h9.1⟩
   ·simp only [valF, valK]
    rw [if_neg (by omega), if_neg (by omega), if_neg (by omega)]
    simp only [mildB, Bool.and_eq_true, bne_iff_ne, ne_eq]
    exact ⟨⟨by omega, by omega⟩, h9.2⟩
theorem has_mildL : ∀ l : List FV, hasL l = true → mildL l = true ∧ mildBL (valFL l) = true
 | [], _ => by simp [mildL, valFL, mildBL]
 | t :: r, h => by
  simp only [hasL, Bool.and_eq_true] at h
  have h1 := has_mild t h.1
  have h2 := has_mildL r h.2
  simp only [mildL, valFL, mildBL, Bool.and_eq_true]
  exact ⟨⟨h1.1, h2.1⟩, ⟨h1.2, h2.2⟩⟩
end
mutual
/-- How many filters a filter is; by a gate. -/
def cntF : Nat → Nat → FV → Option Nat
 | d, m, .mk k l s v => if m < 200 ∧ d ≤ 16 then cntL (d + 1) (m + 1) l else none
def cntL : Nat → Nat → List FV → Option Nat
 | _, m, [] => some m
 | d, m, t :: r => match cntF d m t with
  | none => none
  | some n => cntL d n r
end
mutual
/-- What a filter's value says is that filter, where the gate lets it through. -/
theorem rv_val : ∀ (t : FV) (d m : Nat), hasF t = true → rvF d m (valF t) = (cntF d m t).map (fun n => (t, n))
 | .mk k l s v, d, m, h => by
  by_cases hc : m < 200 ∧ d ≤ 16
  ·rcases hasF_cases h with ⟨rfl, rfl, rfl⟩ | ⟨hk, rfl, rfl, hl⟩
   ·simp only [valF, valK]
    rw [if_neg (by decide), if_neg (by decide), if_pos trivial, rvF_has hc]
    simp only [cntF, cntL]
    rw [if_pos hc]
    rfl
   ·obtain ⟨h1, h2⟩ := kindN_of hk
    simp only [valF, valK]
    rw [if_neg (by omega), if_neg (by omega), if_neg (by omega), rvF_many hc (by omega) (by omega) (by omega), rv_valL l (d + 1) (m + 1) hl, h1]
    simp only [cntF]
    rw [if_pos hc]
    cases cntL (d + 1) (m + 1) l <;> rfl
  ·rw [rvF_off hc]
   simp only [cntF]
   rw [if_neg hc]
   rfl
theorem rv_valL : ∀ (l : List FV) (d m : Nat), hasL l = true → rvL d m (valFL l) = (cntL d m l).map (fun n => (l, n))
 | [], d, m, _ => by simp [valFL, rvL, cntL]
 | t :: r, d, m, h => by
  simp only [hasL, Bool.and_eq_true] at h
  simp only [valFL, rvL, cntL]
  rw [rv_val t d m h.1]
  cases cntF d m t with
  | none => rfl
  | some n =>
   dsimp only [Option.map_some]
   rw [rv_valL r d n h.2]
   cases cntL d n r <;> rfl
end
mutual
/-- Is each of many in it one that means by one? -/
def orF : FV → Bool
 | .mk k l s v => (k == 6 || k == 2) && orL l
def orL : List FV → Bool
 | [] => true
 | t :: r => orF t && orL r
end
theorem orL_mem : ∀ (l : List FV) (t : FV), orL l = true → t ∈ l → orF t = true
 | x :: r, t, h, hm => by
  simp only [orL, Bool.and_eq_true] at h
  rcases List.mem_cons.1 hm with hm | hm
  ·subst hm; exact h.1
  ·exact orL_mem r t h.2 hm
theorem orF_kind {k : Int} {l : List FV} {s v : Txt} (h : orF (.mk k l s v) = true) (hk : k = 1 ∨ k = 2 ∨ k = 3) : k = 2 := by
 simp only [orF, Bool.and_eq_true, Bool.or_eq_true, beq_iff_eq] at h
 omega
theorem orF_kids {k : Int} {l : List FV} {s v : Txt} (h : orF (.mk k l s v) = true) : orL l = true := by
 simp only [orF, Bool.and_eq_true] at h
 exact h.2
end Go.Proofs.YtbfebljahjmjfaaGreatDoor
/- filter: the document's Text, of filters of many and of having one; walked. -/
namespace Go.Proofs.YtbfebljahjmjfaaGreatDoor
open Go.RowKit Go.Shelf
set_option linter.unusedVariables false
set_option linter.unusedSimpArgs false
set_option maxRecDepth 100000

mutual
/-- The document's text of such a filter. -/
def rtxF : FV → Txt
 | .mk k l s v => if k ≤ 3 then [40] ++ sgnT k ++ rtxL l ++ [41] else [40] ++ smallL s ++ [61] ++ [42] ++ [41]
def rtxL : List FV → Txt
 | [] => []
 | t :: r => rtxF t ++ rtxL r
end
theorem cat8 (a b : Txt) (h : a.length + b.length ≤ 9223372036854775807) (W : World) : (Op.stringOp .add ⟨a.toArray⟩ ⟨b.toArray⟩).run Tryz.prog W = .ok (.string ⟨(a ++ b).toArray⟩) W := by
 have h1 := run_string_add_sum (P := Tryz.prog) W ⟨a.toArray⟩ ⟨b.toArray⟩ (by
  have e1 : (⟨a.toArray⟩ : ByteArray).size = a.length := rfl
  have e2 : (⟨b.toArray⟩ : ByteArray).size = b.length := rfl
  rw [e1, e2]
  exact h)
 rw [h1]
 congr 2
theorem rtxL_app : ∀ (l r : List FV), rtxL (l ++ r) = rtxL l ++ rtxL r
 | [], r => by simp [rtxL]
 | t :: l, r => by
  show rtxL (t :: (l ++ r)) = _
  simp only [rtxL]
  rw [rtxL_app l r, List.append_assoc]
theorem rtx_next {l : List FV} {j : Nat} {x : FV} (h : l[j]? = some x) : rtxL (l.take (j + 1)) = rtxL (l.take j) ++ rtxF x := by
 rw [List.take_add_one, h]
 show rtxL (l.take j ++ [x]) = _
 rw [rtxL_app]
 simp [rtxL]
theorem rtx_take (l : List FV) (j : Nat) : (rtxL (l.take j)).length ≤ (rtxL l).length := by
 conv => rhs; rw [← List.take_append_drop j l, rtxL_app]
 rw [List.length_append]
 omega
theorem rtx_mem : ∀ (l : List FV) (x : FV), x ∈ l → (rtxF x).length ≤ (rtxL l).length
 | t :: r, x, h => by
  simp only [rtxL, List.length_append]
  rcases List.mem_cons.1 h with h | h
  ·subst h; omega
  ·have := rtx_mem r x h; omega
theorem hasL_mem : ∀ (l : List FV) (t : FV), hasL l = true → t ∈ l → hasF t = true
 | x :: r, t, h, hm => by
  simp only [hasL, Bool.and_eq_true] at h
  rcases List.mem_cons.1 hm with hm | hm
  ·subst hm; exact h.1
  ·exact hasL_mem r t h.2 hm
set_option maxHeartbeats 8000000 in
theorem rtext8_is : ∀ (t : FV) (h : FH) (w : World), FilAt w t h → hasF t = true → (rtxF t).length ≤ 1000000000 → Calls Tryz.prog 13 #[h.val] w fun e w' => e = .returned (tv (rtxF t)) ∧ Keeps [] w w' := by
 intro t
 induction t using FV.ind with
 | h k l s v ih =>
  intro h w ht hh hlen
  have IH := Lib.hid ih
  obtain ⟨rfl, rfl, rfl, h4, h5, h6, h7, h8, h9, h10, h11⟩ := ht
  obtain ⟨k, B, lb, cb, s, v⟩ := h
  have hl : l.length = lb := h8
  dsimp only at hh hlen h6 ⊢
  have HI := Lib.hid h11
  have HL := Lib.hid hl
  have HHH := Lib.hid (hasF_cases hh)
  obtain ⟨W0, hW0⟩ : ∃ W0, w.alloc (.cells #[.int .i64 k, .slice B lb cb, .string ⟨s.toArray⟩, .string ⟨v.toArray⟩] 26) = W0 := ⟨_, rfl⟩
  have HK0 : Hid (Keeps [] w W0) := by rw [← hW0]; exact (Keeps.refl [] w).alloc _
  have HB0 : Hid (W0.heap[w.heap.size]? = some (.cells #[.int .i64 k, .slice B lb cb, .string ⟨s.toArray⟩, .string ⟨v.toArray⟩] 26 (0, 0))) := by rw [← hW0]; exact heap_new8 w _
  obtain ⟨⟨z0, z1, z2, z3⟩, _⟩ := four_facts8 HB0.out
  have hlb : lb ≤ 9223372036854775807 := Nat.le_trans h9 h10
  clear h4 h5 h7 h8 h9 h10 h11 hl ih hh
  unfold FH.val tv
  rcases HHH.out with ⟨rfl, rfl, rfl⟩ | ⟨hk, rfl, rfl, hhl⟩
  ·have hsl : (smallL s).length ≤ 1000000000 := by
    have h9 : rtxF (.mk (6 : Int) [] s []) = [40] ++ smallL s ++ [61] ++ [42] ++ [41] := by simp [rtxF]
    rw [h9, List.length_append, List.length_append, List.length_append, List.length_append] at hlen
    omega
   have hsl2 : s.length ≤ 1000000000 := by rw [smallL_len] at hsl; exact hsl
   have HSM := Lib.hid (fun X => rsmall_is s X (by omega))
   obtain ⟨S, hS⟩ : ∃ S, smallL s = S := ⟨_, rfl⟩
   rw [hS] at HSM hsl
   have HTX : Hid (rtxF (.mk 6 [] s []) = [40] ++ S ++ [61] ++ [42] ++ [41]) := by show _ = _; rw [← hS]; simp [rtxF]
   have hc1 : ∀ W, (Op.stringOp .add ⟨#[40]⟩ ⟨S.toArray⟩).run Tryz.prog W = .ok (.string ⟨([40] ++ S).toArray⟩) W := fun W => cat8 [40] S (by simp; omega) W
   obtain ⟨S1, hS1⟩ : ∃ S1, [40] ++ S = S1 := ⟨_, rfl⟩
   have hl1 : S1.length = S.length + 1 := by rw [← hS1, List.length_append]; simp only [List.length_cons, List.length_nil]; omega
   rw [hS1] at hc1 HTX
   have hc2 : ∀ W, (Op.stringOp .add ⟨S1.toArray⟩ ⟨#[61]⟩).run Tryz.prog W = .ok (.string ⟨(S1 ++ [61]).toArray⟩) W := fun W => cat8 S1 [61] (by simp; omega) W
   obtain ⟨S2, hS2⟩ : ∃ S2, S1 ++ [61] = S2 := ⟨_, rfl⟩
   have hl2 : S2.length = S.length + 2 := by rw [← hS2, List.length_append]; simp only [List.length_cons, List.length_nil]; omega
   rw [hS2] at hc2 HTX
   have hc3 : ∀ W, (Op.stringOp .add ⟨S2.toArray⟩ ⟨#[42]⟩).run Tryz.prog W = .ok (.string ⟨(S2 ++ [42]).toArray⟩) W := fun W => cat8 S2 [42] (by simp; omega) W
   obtain ⟨S3, hS3⟩ : ∃ S3, S2 ++ [42] = S3 := ⟨_, rfl⟩
   have hl3 : S3.length = S.length + 3 := by rw [← hS3, List.length_append]; simp only [List.length_cons, List.length_nil]; omega
   rw [hS3] at hc3 HTX
   have hc4 : ∀ W, (Op.stringOp .add ⟨S3.toArray⟩ ⟨#[41]⟩).run Tryz.prog W = .ok (.string ⟨(S3 ++ [41]).toArray⟩) W := fun W => cat8 S3 [41] (by simp; omega) W
   clear hS hS1 hS2 hS3 hl1 hl2 hl3 hlen
   go_enter Tryz.func13, Tryz.ntmps13
   go_wp2_with fail
   refine (HSM.out _).mono ?_
   rintro e w3 ⟨rfl, hk3⟩
   obtain ⟨⟨y0, y1, y2, y3⟩, _⟩ := four_facts8 (blk_keep HB0.out hk3 (by simp))
   have HK3 := Lib.hid (HK0.out.trans' hk3)
   clear hk3 z0 z1 z2 z3
   go_wp2_with fail
   refine wp_loop_rounds 1 ?_
   rw [rounds_succ]
   go_wp2_with fail
   go_ret
   exact ⟨by rw [HTX.out]; rfl, HK3.out⟩
  ·have HHL := Lib.hid hhl
   have HLEN : Hid ((rtxL l).length ≤ 1000000000) := by
    have h9 := hlen
    simp only [rtxF, List.length_append] at h9
    rw [if_pos (by omega)] at h9
    simp at h9
    show _ ≤ _
    omega
   clear hlen hhl HHH
   rcases hk with rfl | rfl | rfl
   ·have hcat0 : ∀ W, (Op.stringOp .add ⟨#[40]⟩ ⟨#[38]⟩).run Tryz.prog W = .ok (.string ⟨#[40, 38]⟩) W := fun W => cat8 [40] [38] (by simp) W
    obtain ⟨pre, hpre⟩ : ∃ pre : Txt, [40, 38] = pre := ⟨_, rfl⟩
    have hsl0 : pre.length = 2 := by rw [← hpre]; rfl
    have hLEN := HLEN.out
    go_enter Tryz.func13, Tryz.ntmps13
    go_wp2_with fail
    go_loopw [4, 5] (fun a i wr => ∃ j : Nat, a = .string ⟨(pre ++ rtxL (l.take j)).toArray⟩ ∧ i = .int .i64 (j : Int) ∧ j ≤ lb ∧ Hid (Keeps [] W0 wr)) (fun _ i _ => lb - (intOf i).toNat)
    case atStart => exact ⟨0, (by rw [← hpre]; rfl), rfl, Nat.zero_le _, (by first | exact Keeps.refl _ _ | exact (Keeps.refl [] W0).alloc _)⟩
    case round =>
     obtain ⟨j, rfl, rfl, hj, HKR⟩ := hrel
     obtain ⟨⟨z0, z1, z2, z3⟩, _⟩ := four_facts8 (blk_keep HB0.out HKR.out (by simp))
     have HKW := Lib.hid (HK0.out.trans' HKR.out)
     have hsum := rtx_take l j
     by_cases hlt : j < lb
     ·have hx : l[j]? = some (l[j]'(by have := HL.out; omega)) := List.getElem?_eq_getElem _
      obtain ⟨b9, o1, hh, rfl, hc0, hat⟩ := HI.out.at_ j _ hx
      rw [Nat.zero_add] at hc0
      have hc9 : ∀ q u, (FH.list hh)[q]? = some u → wr.cell? ⟨b9, o1 + j * 4 + q, none⟩ = some u := fun q u hu => (HKW.out.cell (lt_of_cell (hc0 q u hu)) (by simp)).trans (hc0 q u hu)
      obtain ⟨g0, g1, g2, g3⟩ := four_at hc9
      have hmem : (l[j]'(by have := HL.out; omega)) ∈ l := List.getElem_mem _
      generalize hxx : l[j]'(by have := HL.out; omega) = x at *
      obtain ⟨k', B', lb'', cb', s', v'⟩ := hh
      have hxl := rtx_mem l x hmem
      have hnx := rtx_next hx
      have HIH := Lib.hid (fun X (hX : Keeps [] w X) => IH.out x hmem ⟨k', B', lb'', cb', s', v'⟩ X (FilAt.grow hX x _ hat) (hasL_mem l x HHL.out hmem) (by omega))
      obtain ⟨Q, hQ⟩ : ∃ Q, pre ++ rtxL (l.take j) = Q := ⟨_, rfl⟩
      have hQl : Q.length ≤ 2 + (rtxL l).length := by rw [← hQ, List.length_append]; omega
      have hcat : ∀ W, (Op.stringOp .add ⟨Q.toArray⟩ ⟨(rtxF x).toArray⟩).run Tryz.prog W = .ok (.string ⟨(Q ++ rtxF x).toArray⟩) W := fun W => cat8 Q (rtxF x) (by omega) W
      have HQ : Hid (pre ++ rtxL (l.take (j + 1)) = Q ++ rtxF x) := by show _ = _; rw [hnx, ← List.append_assoc, hQ]
      have hji : (j : Int) < (lb : Int) := by omega
      have hj0 : (0 : Int) ≤ (j : Int) := by omega
      unfold FH.val tv at HIH
      dsimp only at HIH
      rw [hQ]
      clear hx hat hc0 hc9 hxx hmem hxl hnx hQ hsum hLEN
      go_wp2_with fail
      refine (HIH.out _ HKW.out).mono ?_
      rintro e w6 ⟨rfl, hk6⟩
      have HK6 := Lib.hid (HKR.out.trans' hk6)
      clear hk6 g0 g1 g2 g3 z0 z1 z2 z3
      generalize rtxF x = rx at hcat HQ ⊢
      go_wp2_with fail
      go_roundw
      case rel => exact ⟨j + 1, (by rw [HQ.out]), (by go_num), by omega, HK6.out⟩
      case measure => simp [intOf]; omega
     ·obtain rfl : j = lb := by omega
      have htl : l.take j = l := List.take_of_length_le (by rw [HL.out]; exact Nat.le_refl _)
      rw [htl]
      obtain ⟨Q, hQ⟩ : ∃ Q, pre ++ rtxL l = Q := ⟨_, rfl⟩
      have hQl : Q.length ≤ 2 + (rtxL l).length := by rw [← hQ, List.length_append]; omega
      have hcat : ∀ W, (Op.stringOp .add ⟨Q.toArray⟩ ⟨#[41]⟩).run Tryz.prog W = .ok (.string ⟨(Q ++ [41]).toArray⟩) W := fun W => cat8 Q [41] (by simp; omega) W
      have HQ : Hid (rtxF (.mk (1) l [] []) = Q ++ [41]) := by show _ = _; rw [← hQ, ← hpre]; simp [rtxF, sgnT]
      rw [hQ]
      clear htl hQ hsum hLEN
      go_wp2_with fail
      go_ret
      exact ⟨by rw [HQ.out]; rfl, HKW.out⟩
   ·have hcat0 : ∀ W, (Op.stringOp .add ⟨#[40]⟩ ⟨#[124]⟩).run Tryz.prog W = .ok (.string ⟨#[40, 124]⟩) W := fun W => cat8 [40] [124] (by simp) W
    obtain ⟨pre, hpre⟩ : ∃ pre : Txt, [40, 124] = pre := ⟨_, rfl⟩
    have hsl0 : pre.length = 2 := by rw [← hpre]; rfl
    have hLEN := HLEN.out
    go_enter Tryz.func13, Tryz.ntmps13
    go_wp2_with fail
    go_loopw [4, 5] (fun a i wr => ∃ j : Nat, a = .string ⟨(pre ++ rtxL (l.take j)).toArray⟩ ∧ i = .int .i64 (j : Int) ∧ j ≤ lb ∧ Hid (Keeps [] W0 wr)) (fun _ i _ => lb - (intOf i).toNat)
    case atStart => exact ⟨0, (by rw [← hpre]; rfl), rfl, Nat.zero_le _, (by first | exact Keeps.refl _ _ | exact (Keeps.refl [] W0).alloc _)⟩
    case round =>
     obtain ⟨j, rfl, rfl, hj, HKR⟩ := hrel
     obtain ⟨⟨z0, z1, z2, z3⟩, _⟩ := four_facts8 (blk_keep HB0.out HKR.out (by simp))
     have HKW := Lib.hid (HK0.out.trans' HKR.out)
     have hsum := rtx_take l j
     by_cases hlt : j < lb
     ·have hx : l[j]? = some (l[j]'(by have := HL.out; omega)) := List.getElem?_eq_getElem _
      obtain ⟨b9, o1, hh, rfl, hc0, hat⟩ := HI.out.at_ j _ hx
      rw [Nat.zero_add] at hc0
      have hc9 : ∀ q u, (FH.list hh)[q]? = some u → wr.cell? ⟨b9, o1 + j * 4 + q, none⟩ = some u := fun q u hu => (HKW.out.cell (lt_of_cell (hc0 q u hu)) (by simp)).trans (hc0 q u hu)
      obtain ⟨g0, g1, g2, g3⟩ := four_at hc9
      have hmem : (l[j]'(by have := HL.out; omega)) ∈ l := List.getElem_mem _
      generalize hxx : l[j]'(by have := HL.out; omega) = x at *
      obtain ⟨k', B', lb'', cb', s', v'⟩ := hh
      have hxl := rtx_mem l x hmem
      have hnx := rtx_next hx
      have HIH := Lib.hid (fun X (hX : Keeps [] w X) => IH.out x hmem ⟨k', B', lb'', cb', s', v'⟩ X (FilAt.grow hX x _ hat) (hasL_mem l x HHL.out hmem) (by omega))
      obtain ⟨Q, hQ⟩ : ∃ Q, pre ++ rtxL (l.take j) = Q := ⟨_, rfl⟩
      have hQl : Q.length ≤ 2 + (rtxL l).length := by rw [← hQ, List.length_append]; omega
      have hcat : ∀ W, (Op.stringOp .add ⟨Q.toArray⟩ ⟨(rtxF x).toArray⟩).run Tryz.prog W = .ok (.string ⟨(Q ++ rtxF x).toArray⟩) W := fun W => cat8 Q (rtxF x) (by omega) W
      have HQ : Hid (pre ++ rtxL (l.take (j + 1)) = Q ++ rtxF x) := by show _ = _; rw [hnx, ← List.append_assoc, hQ]
      have hji : (j : Int) < (lb : Int) := by omega
      have hj0 : (0 : Int) ≤ (j : Int) := by omega
      unfold FH.val tv at HIH
      dsimp only at HIH
      rw [hQ]
      clear hx hat hc0 hc9 hxx hmem hxl hnx hQ hsum hLEN
      go_wp2_with fail
      refine (HIH.out _ HKW.out).mono ?_
      rintro e w6 ⟨rfl, hk6⟩
      have HK6 := Lib.hid (HKR.out.trans' hk6)
      clear hk6 g0 g1 g2 g3 z0 z1 z2 z3
      generalize rtxF x = rx at hcat HQ ⊢
      go_wp2_with fail
      go_roundw
      case rel => exact ⟨j + 1, (by rw [HQ.out]), (by go_num), by omega, HK6.out⟩
      case measure => simp [intOf]; omega
     ·obtain rfl : j = lb := by omega
      have htl : l.take j = l := List.take_of_length_le (by rw [HL.out]; exact Nat.le_refl _)
      rw [htl]
      obtain ⟨Q, hQ⟩ : ∃ Q, pre ++ rtxL l = Q := ⟨_, rfl⟩
      have hQl : Q.length ≤ 2 + (rtxL l).length := by rw [← hQ, List.length_append]; omega
      have hcat : ∀ W, (Op.stringOp .add ⟨Q.toArray⟩ ⟨#[41]⟩).run Tryz.prog W = .ok (.string ⟨(Q ++ [41]).toArray⟩) W := fun W => cat8 Q [41] (by simp; omega) W
      have HQ : Hid (rtxF (.mk (2) l [] []) = Q ++ [41]) := by show _ = _; rw [← hQ, ← hpre]; simp [rtxF, sgnT]
      rw [hQ]
      clear htl hQ hsum hLEN
      go_wp2_with fail
      go_ret
      exact ⟨by rw [HQ.out]; rfl, HKW.out⟩
   ·have hcat0 : ∀ W, (Op.stringOp .add ⟨#[40]⟩ ⟨#[33]⟩).run Tryz.prog W = .ok (.string ⟨#[40, 33]⟩) W := fun W => cat8 [40] [33] (by simp) W
    obtain ⟨pre, hpre⟩ : ∃ pre : Txt, [40, 33] = pre := ⟨_, rfl⟩
    have hsl0 : pre.length = 2 := by rw [← hpre]; rfl
    have hLEN := HLEN.out
    go_enter Tryz.func13, Tryz.ntmps13
    go_wp2_with fail
    go_loopw [4, 5] (fun a i wr => ∃ j : Nat, a = .string ⟨(pre ++ rtxL (l.take j)).toArray⟩ ∧ i = .int .i64 (j : Int) ∧ j ≤ lb ∧ Hid (Keeps [] W0 wr)) (fun _ i _ => lb - (intOf i).toNat)
    case atStart => exact ⟨0, (by rw [← hpre]; rfl), rfl, Nat.zero_le _, (by first | exact Keeps.refl _ _ | exact (Keeps.refl [] W0).alloc _)⟩
    case round =>
     obtain ⟨j, rfl, rfl, hj, HKR⟩ := hrel
     obtain ⟨⟨z0, z1, z2, z3⟩, _⟩ := four_facts8 (blk_keep HB0.out HKR.out (by simp))
     have HKW := Lib.hid (HK0.out.trans' HKR.out)
     have hsum := rtx_take l j
     by_cases hlt : j < lb
     ·have hx : l[j]? = some (l[j]'(by have := HL.out; omega)) := List.getElem?_eq_getElem _
      obtain ⟨b9, o1, hh, rfl, hc0, hat⟩ := HI.out.at_ j _ hx
      rw [Nat.zero_add] at hc0
      have hc9 : ∀ q u, (FH.list hh)[q]? = some u → wr.cell? ⟨b9, o1 + j * 4 + q, none⟩ = some u := fun q u hu => (HKW.out.cell (lt_of_cell (hc0 q u hu)) (by simp)).trans (hc0 q u hu)
      obtain ⟨g0, g1, g2, g3⟩ := four_at hc9
      have hmem : (l[j]'(by have := HL.out; omega)) ∈ l := List.getElem_mem _
      generalize hxx : l[j]'(by have := HL.out; omega) = x at *
      obtain ⟨k', B', lb'', cb', s', v'⟩ := hh
      have hxl := rtx_mem l x hmem
      have hnx := rtx_next hx
      have HIH := Lib.hid (fun X (hX : Keeps [] w X) => IH.out x hmem ⟨k', B', lb'', cb', s', v'⟩ X (FilAt.grow hX x _ hat) (hasL_mem l x HHL.out hmem) (by omega))
      obtain ⟨Q, hQ⟩ : ∃ Q, pre ++ rtxL (l.take j) = Q := ⟨_, rfl⟩
      have hQl : Q.length ≤ 2 + (rtxL l).length := by rw [← hQ, List.length_append]; omega
      have hcat : ∀ W, (Op.stringOp .add ⟨Q.toArray⟩ ⟨(rtxF x).toArray⟩).run Tryz.prog W = .ok (.string ⟨(Q ++ rtxF x).toArray⟩) W := fun W => cat8 Q (rtxF x) (by omega) W
      have HQ : Hid (pre ++ rtxL (l.take (j + 1)) = Q ++ rtxF x) := by show _ = _; rw [hnx, ← List.append_assoc, hQ]
      have hji : (j : Int) < (lb : Int) := by omega
      have hj0 : (0 : Int) ≤ (j : Int) := by omega
      unfold FH.val tv at HIH
      dsimp only at HIH
      rw [hQ]
      clear hx hat hc0 hc9 hxx hmem hxl hnx hQ hsum hLEN
      go_wp2_with fail
      refine (HIH.out _ HKW.out).mono ?_
      rintro e w6 ⟨rfl, hk6⟩
      have HK6 := Lib.hid (HKR.out.trans' hk6)
      clear hk6 g0 g1 g2 g3 z0 z1 z2 z3
      generalize rtxF x = rx at hcat HQ ⊢
      go_wp2_with fail
      go_roundw
      case rel => exact ⟨j + 1, (by rw [HQ.out]), (by go_num), by omega, HK6.out⟩
      case measure => simp [intOf]; omega
     ·obtain rfl : j = lb := by omega
      have htl : l.take j = l := List.take_of_length_le (by rw [HL.out]; exact Nat.le_refl _)
      rw [htl]
      obtain ⟨Q, hQ⟩ : ∃ Q, pre ++ rtxL l = Q := ⟨_, rfl⟩
      have hQl : Q.length ≤ 2 + (rtxL l).length := by rw [← hQ, List.length_append]; omega
      have hcat : ∀ W, (Op.stringOp .add ⟨Q.toArray⟩ ⟨#[41]⟩).run Tryz.prog W = .ok (.string ⟨(Q ++ [41]).toArray⟩) W := fun W => cat8 Q [41] (by simp; omega) W
      have HQ : Hid (rtxF (.mk (3) l [] []) = Q ++ [41]) := by show _ = _; rw [← hQ, ← hpre]; simp [rtxF, sgnT]
      rw [hQ]
      clear htl hQ hsum hLEN
      go_wp2_with fail
      go_ret
      exact ⟨by rw [HQ.out]; rfl, HKW.out⟩
end Go.Proofs.YtbfebljahjmjfaaGreatDoor
