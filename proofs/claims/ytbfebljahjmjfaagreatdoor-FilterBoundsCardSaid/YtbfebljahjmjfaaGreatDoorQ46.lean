import Derived.Test.YtbfebljahjmjfaaGreatDoorQ45
import Derived.Test.YtbfebljahjmjfaaGreatDoorQ35
import Derived.BigQuiet
import Derived.Test.YtbfebljahjmjfaaGreatDoorQ22
import Derived.Test.YtbfebljahjmjfaaGreatDoorQ23
import Derived.Test.YtbfebljahjmjfaaGreatDoorQ37
import Derived.Test.YtbfebljahjmjfaaGreatDoorQ42
import Derived.Test.YtbfebljahjmjfaaGreatDoorQ44
import Derived.Test.YtbfebljahjmjfaaGreatDoorQ31
/- filter: the document's Of, on values of filters of many and of having one; walked. -/
namespace Go.Proofs.YtbfebljahjmjfaaGreatDoor
open Go.RowKit Go.Shelf
set_option linter.unusedVariables false
set_option linter.unusedSimpArgs false
set_option maxRecDepth 100000

/-- How the document's Of ends. -/
def RoQ (f : FV) (w : World) (e : Ending) (w' : World) : Prop :=
 (dF 1 f = true → rightF (lowF f) = true → ∃ h, e = .returned (.tuple #[FH.val h, .bool true]) ∧ FilAt w' (lowF f) h) ∧ (dF 1 f = false ∨ rightF (lowF f) = false → e = .returned (.tuple #[FH.val ⟨0, none, 0, 0, [], []⟩, .bool false])) ∧ Keeps [] w w'
set_option maxHeartbeats 8000000 in
theorem rofv_is (f : FV) (h : BH) (w : World) (ht : BerAt w (valF f) h) (hf : hasF f = true) (ho : orF f = true) (hs : szV f ≤ 100000) (hc : checkB (valF f) = 0) (hb : maxB (valF f) + 65546 * hgtB (valF f) ≤ 4611686018427380000) : Calls Tryz.prog 38 #[h.val] w (RoQ f w) := by
 have HCK := Lib.hid (fun X (hX : Keeps [] w X) => rcheck_is (valF f) h X hb (BerAt.grow hX _ _ ht))
 rw [hc] at HCK
 have HOF : Hid (∀ X, Keeps [] w X → Calls Tryz.prog 91 #[h.val, .int .i64 1] X (RofQ 1 f X)) := fun X hX => rof8_is f 1 h X (BerAt.grow hX _ _ ht) hf ho hs (by omega)
 have HRI := Lib.hid (fun t h X (ht : FilAt X t h) => rright8_is t h X ht)
 obtain ⟨c', n', k', A', la', ca', B', lb', cb'⟩ := h
 have k1 : Keeps [] w (w.alloc (.cells #[.int .u8 (c' : Int), .int .u8 (n' : Int), .bool k', .slice A' la' ca', .slice B' lb' cb'] 40)) := (Keeps.refl [] w).alloc _
 have b1 := heap_new8 w (.cells #[.int .u8 (c' : Int), .int .u8 (n' : Int), .bool k', .slice A' la' ca', .slice B' lb' cb'] 40)
 have k2 : Keeps [] (w.alloc (.cells #[.int .u8 (c' : Int), .int .u8 (n' : Int), .bool k', .slice A' la' ca', .slice B' lb' cb'] 40)) ((w.alloc (.cells #[.int .u8 (c' : Int), .int .u8 (n' : Int), .bool k', .slice A' la' ca', .slice B' lb' cb'] 40)).alloc (.cells #[.int .i64 0, .slice none 0 0, .string ⟨#[]⟩, .string ⟨#[]⟩] 26)) := (Keeps.refl [] _).alloc _
 have b2 := heap_new8 (w.alloc (.cells #[.int .u8 (c' : Int), .int .u8 (n' : Int), .bool k', .slice A' la' ca', .slice B' lb' cb'] 40)) (.cells #[.int .i64 0, .slice none 0 0, .string ⟨#[]⟩, .string ⟨#[]⟩] 26)
 rw [World.size_alloc] at b2
 obtain ⟨W0, hW0⟩ : ∃ W0, (w.alloc (.cells #[.int .u8 (c' : Int), .int .u8 (n' : Int), .bool k', .slice A' la' ca', .slice B' lb' cb'] 40)).alloc (.cells #[.int .i64 0, .slice none 0 0, .string ⟨#[]⟩, .string ⟨#[]⟩] 26) = W0 := ⟨_, rfl⟩
 have b1' := blk_keep b1 k2 (by simp)
 have hz0 : W0.heap.size = w.heap.size + 2 := by rw [← hW0]; simp
 rw [hW0] at b1' b2
 have HB0 := Lib.hid b1'
 have HR0 := Lib.hid b2
 have HZ0 := Lib.hid hz0
 have HK0 : Hid (Keeps [] w W0) := by rw [← hW0]; exact k1.trans' k2
 obtain ⟨⟨z0, z1, z2, z3, z4⟩, _⟩ := five_facts HB0.out
 have FIN : Hid (∀ (X : World), Keeps [] w X → X.heap[w.heap.size + 1]? = some (.cells #[.int .i64 0, .slice none 0 0, .string ⟨#[]⟩, .string ⟨#[]⟩] 26 (0, 0)) → dF 1 f = false ∨ rightF (lowF f) = false → ∀ fn : Array Value, fn.getD 2 undef = .pointer (some ⟨w.heap.size + 1, 0, none⟩) → fn.getD 3 undef = .bool false →
   bodyPost Tryz.prog Tryz.f38 (RoQ f w) .ret ⟨fn, []⟩ ((((X.setCell ⟨w.heap.size + 1, 0, none⟩ (.int .i64 0)).setCell ⟨w.heap.size + 1, 1, none⟩ (.slice none 0 0)).setCell ⟨w.heap.size + 1, 2, none⟩ (.string ⟨#[]⟩)).setCell ⟨w.heap.size + 1, 3, none⟩ (.string ⟨#[]⟩))) := by
  intro X hX hx hno fn h6 h7
  have HR6' := heap_setCell_same _ (w.heap.size + 1) 0 _ _ (.int .i64 0) hx
  have HR7' := heap_setCell_same _ (w.heap.size + 1) 1 _ _ (.slice none 0 0) HR6'
  have HR8' := heap_setCell_same _ (w.heap.size + 1) 2 _ _ (.string ⟨#[]⟩) HR7'
  have hrow := heap_setCell_same _ (w.heap.size + 1) 3 _ _ (.string ⟨#[]⟩) HR8'
  refine bodyPost_ret (results_fil_tmp rfl _ _ (w.heap.size + 1) _ (0, 0) h6 rfl hrow) rfl ⟨fun h8 h9 => (by rcases hno with h | h <;> simp_all), fun _ => by rw [h7]; rfl, ?_⟩
  exact ((((hX.setCell (.inr (Nat.le_succ _)) _).setCell (.inr (Nat.le_succ _)) _).setCell (.inr (Nat.le_succ _)) _).setCell (.inr (Nat.le_succ _)) _)
 unfold BH.val at *
 dsimp only at *
 clear ht hf ho hs hc hb k1 b1 k2 b2 b1' hz0
 go_enter Tryz.func38, Tryz.ntmps38
 go_wp2_with fail
 refine (HCK.out _ HK0.out).mono ?_
 rintro e w1 ⟨rfl, hk1⟩
 have HB1 := Lib.hid (blk_keep HB0.out hk1 (by simp))
 have HR1 := Lib.hid (blk_keep HR0.out hk1 (by simp))
 have HK1 := Lib.hid (HK0.out.trans' hk1)
 clear hk1 z0 z1 z2 z3 z4
 obtain ⟨⟨z0, z1, z2, z3, z4⟩, _⟩ := five_facts HB1.out
 go_wp2_with fail
 refine (HOF.out _ HK1.out).mono ?_
 rintro e w2 ⟨h1, h2, hk2⟩
 have HR2 := Lib.hid (blk_keep HR1.out hk2 (by simp))
 have HK2 := Lib.hid (HK1.out.trans' hk2)
 cases hd : dF 1 f with
 | false =>
  obtain rfl := h2 hd
  have hk3 : Keeps [] w2 (w2.alloc (.cells #[.int .i64 0, .slice none 0 0, .string ⟨#[]⟩, .string ⟨#[]⟩] 26)) := (Keeps.refl [] w2).alloc _
  have HR3 := Lib.hid (blk_keep HR2.out hk3 (by simp))
  have HK3 := Lib.hid (HK2.out.trans' hk3)
  obtain ⟨⟨r0, r1, r2, r3⟩, ⟨e0, e1, e2, e3⟩⟩ := four_facts8 HR3.out
  have HD := Lib.hid hd
  clear h1 h2 hk2 hk3 hd z0 z1 z2 z3 z4
  unfold FH.val tv
  dsimp only
  go_wp2_with fail
  exact FIN.out _ HK3.out HR3.out (.inl HD.out) _ rfl rfl
 | true =>
  obtain ⟨h, rfl, hf⟩ := h1 hd
  obtain ⟨k, B, lb, cb, s, v⟩ := h
  have hk3 : Keeps [] w2 (w2.alloc (.cells #[.int .i64 k, .slice B lb cb, .string ⟨s.toArray⟩, .string ⟨v.toArray⟩] 26)) := (Keeps.refl [] w2).alloc _
  have hb3 := heap_new8 w2 (.cells #[.int .i64 k, .slice B lb cb, .string ⟨s.toArray⟩, .string ⟨v.toArray⟩] 26)
  have HR3 := Lib.hid (blk_keep HR2.out hk3 (by simp))
  have HK3 := Lib.hid (HK2.out.trans' hk3)
  have HB3 := Lib.hid hb3
  have HKL := Lib.hid hk3
  have HF := Lib.hid hf
  have HZ1 : Hid (w.heap.size + 2 ≤ w1.heap.size) := by show _ ≤ _; have := HZ0.out; have := HK1.out; have h9 := lt_of_heap HR1.out; omega
  have HRR := Lib.hid (HRI.out (lowF f) ⟨k, B, lb, cb, s, v⟩ (w2.alloc (.cells #[.int .i64 k, .slice B lb cb, .string ⟨s.toArray⟩, .string ⟨v.toArray⟩] 26)) (hf [] _ (by simp) hk3))
  obtain ⟨⟨q0, q1, q2, q3⟩, _⟩ := four_facts8 hb3
  have HD := Lib.hid hd
  clear h1 h2 hk2 hk3 hd hb3 hf z0 z1 z2 z3 z4
  unfold FH.val tv at *
  dsimp only at *
  go_wp2_with fail
  refine HRR.out.mono ?_
  rintro e w4 ⟨rfl, hk4⟩
  have HR4 := Lib.hid (blk_keep HR3.out hk4 (by simp))
  have HK4 := Lib.hid (HK3.out.trans' hk4)
  have HB4 := Lib.hid (blk_keep HB3.out hk4 (by simp))
  have HKM := Lib.hid (HKL.out.trans' hk4)
  obtain ⟨⟨r0, r1, r2, r3⟩, ⟨e0, e1, e2, e3⟩⟩ := four_facts8 HR4.out
  clear hk4 q0 q1 q2 q3
  obtain ⟨⟨q0, q1, q2, q3⟩, _⟩ := four_facts8 HB4.out
  cases hr : rightF (lowF f) with
  | false =>
   have HRF := Lib.hid hr
   clear hr
   go_wp2_with fail
   exact FIN.out _ HK4.out HR4.out (.inr HRF.out) _ rfl rfl
  | true =>
   have HRT := Lib.hid hr
   clear hr
   go_wp2_with fail
   have HR6' := heap_setCell_same _ (w.heap.size + 1) 0 _ _ (.int .i64 k) HR4.out
   have HR7' := heap_setCell_same _ (w.heap.size + 1) 1 _ _ (.slice B lb cb) HR6'
   have HR8' := heap_setCell_same _ (w.heap.size + 1) 2 _ _ (.string ⟨s.toArray⟩) HR7'
   have hrow := heap_setCell_same _ (w.heap.size + 1) 3 _ _ (.string ⟨v.toArray⟩) HR8'
   have k9 : Keeps [w.heap.size + 1] w4 ((((w4.setCell ⟨w.heap.size + 1, 0, none⟩ (.int .i64 k)).setCell ⟨w.heap.size + 1, 1, none⟩ (.slice B lb cb)).setCell ⟨w.heap.size + 1, 2, none⟩ (.string ⟨s.toArray⟩)).setCell ⟨w.heap.size + 1, 3, none⟩ (.string ⟨v.toArray⟩)) := ((((Keeps.refl [w.heap.size + 1] w4).setCell (.inl (by simp)) _).setCell (.inl (by simp)) _).setCell (.inl (by simp)) _).setCell (.inl (by simp)) _
   refine bodyPost_ret (results_fil_tmp rfl _ _ (w.heap.size + 1) _ (0, 0) rfl rfl hrow) rfl ⟨fun _ _ => ⟨⟨k, B, lb, cb, s, v⟩, rfl, HF.out [w.heap.size + 1] _ (fun x hx => ?_) ((HKM.out.mono (by simp)).trans k9 (fun x hx => .inl hx))⟩, fun h9 => ?_, HK4.out.trans k9 (fun x hx => .inr (by rw [List.mem_singleton.1 hx]; omega))⟩
   ·rw [List.mem_singleton.1 hx]; have := HZ1.out; omega
   ·rcases h9 with h9 | h9
    ·rw [HD.out] at h9; cases h9
    ·rw [HRT.out] at h9; cases h9
end Go.Proofs.YtbfebljahjmjfaaGreatDoor
/- filter: the law's values: is a value light? -/
namespace Go.Proofs.YtbfebljahjmjfaaGreatDoor
open Go.RowKit Go.Shelf
set_option linter.unusedVariables false
set_option linter.unusedSimpArgs false
set_option maxRecDepth 100000

set_option maxHeartbeats 1000000 in
theorem valsW_is : ∀ (t : BV) (d : Nat) (r : Int) (h : BH) (w : World), d ≤ 41 → 0 ≤ r → r ≤ 3000 → BerAt w t h →
  Calls Tryz.prog 36 #[h.val, .int .i64 r, .int .i64 (d : Int)] w fun e w' => e = .returned (.int .i64 (leftB d r t)) ∧ Keeps [] w w' := by
 intro t
 induction t using BV.ind with
 | h c n k b l ih =>
  intro d r h w hd hr0 hr1 ht
  have IH := Lib.hid ih
  obtain ⟨rfl, rfl, rfl, h4, h5, h6, h7, h8, h9, h10, h11⟩ := ht
  obtain ⟨c, n, k, A, la, ca, B, lb, cb⟩ := h
  have hl : l.length = lb := h8
  have hla : b.length = la := h6
  have hlb : lb ≤ 9223372036854775807 := Nat.le_trans h9 h10
  have hlab : la ≤ 9223372036854775807 := by
   obtain ⟨A', c', he, q1, q2, _⟩ := h7
   injection he with _ e2 _
   have e2' : la = b.length := e2
   have q2' : c' ≤ maxLen := q2
   unfold maxLen at q2'
   omega
  have HEQ : Hid (leftB d r (.mk c n k b l) = if 40 < d ∨ r < (la : Int) ∨ r < (lb : Int) then -1 else leftL (d + 1) (r - 1 - (la : Int)) l) := by show _ = _; rw [← hla, ← hl]; simp [leftB]
  have HI := Lib.hid h11
  have HL := Lib.hid hl
  have HK : Hid (Keeps [] w (w.alloc (.cells #[.int .u8 (c : Int), .int .u8 (n : Int), .bool k, .slice A la ca, .slice B lb cb] 40))) := (Keeps.refl [] w).alloc _
  clear h4 h5 h6 h7 h8 h9 h10 h11 hl hla ih
  unfold BH.val
  by_cases hbad : 40 < d ∨ r < (la : Int) ∨ r < (lb : Int)
  ·rw [if_pos hbad] at HEQ
   rw [HEQ.out]
   by_cases q1 : (40 : Int) < (d : Int)
   ·go_enter Tryz.func36, Tryz.ntmps36
    go_wp2_with fail
    go_ret
    exact ⟨rfl, HK.out⟩
   ·by_cases q2 : r < (lb : Int)
    ·go_enter Tryz.func36, Tryz.ntmps36
     go_wp2_with fail
     go_ret
     exact ⟨rfl, HK.out⟩
    ·have q3 : r < (la : Int) := by omega
     go_enter Tryz.func36, Tryz.ntmps36
     go_wp2_with fail
     go_ret
     exact ⟨rfl, HK.out⟩
  ·rw [if_neg hbad] at HEQ
   have q1 : ¬ (40 : Int) < (d : Int) := by omega
   have q2 : ¬ r < (la : Int) := by omega
   have q3 : ¬ r < (lb : Int) := by omega
   clear hbad
   go_enter Tryz.func36, Tryz.ntmps36
   go_wp2_with fail
   go_loopw [1, 7] (fun a i wr => ∃ (rr : Int) (j : Nat), a = .int .i64 rr ∧ i = .int .i64 (j : Int) ∧ j ≤ lb ∧ (-1 ≤ rr ∧ rr ≤ 3000) ∧ Hid (leftL (d + 1) rr (l.drop j) = leftL (d + 1) (r - 1 - (la : Int)) l) ∧ Hid (Keeps [] w wr) ∧ Hid (wr.heap[w.heap.size]? = some (.cells #[.int .u8 (c : Int), .int .u8 (n : Int), .bool k, .slice A la ca, .slice B lb cb] 40 (0, 0)))) (fun _ i _ => lb - (intOf i).toNat)
   case atStart => exact ⟨r - 1 - (la : Int), 0, by go_num, rfl, Nat.zero_le _, by omega, rfl, HK.out, heap_new8 w _⟩
   case round =>
    obtain ⟨rr, j, rfl, rfl, hj, hrr, HS, HKR, HBX⟩ := hrel
    obtain ⟨⟨z0, z1, z2, z3, z4⟩, _⟩ := five_facts HBX.out
    by_cases hgo : j < lb ∧ 0 ≤ rr
    ·obtain ⟨hlt, ha⟩ := hgo
     have hx : l[j]? = some (l[j]'(by have := HL.out; omega)) := List.getElem?_eq_getElem _
     obtain ⟨b9, o1, hh, rfl, hc, hat⟩ := (ItemsAt.grow HKR.out B 0 l HI.out).at_ j _ hx
     rw [Nat.zero_add] at hc
     obtain ⟨g0, g1, g2, g3, g4⟩ := five_at hc
     have hmem : (l[j]'(by have := HL.out; omega)) ∈ l := List.getElem_mem _
     have hdr : l.drop j = l[j]'(by have := HL.out; omega) :: l.drop (j + 1) := List.drop_eq_getElem_cons _
     generalize hxx : l[j]'(by have := HL.out; omega) = x at *
     have HS2 : Hid (leftL (d + 1) (leftB (d + 1) rr x) (l.drop (j + 1)) = leftL (d + 1) (r - 1 - (la : Int)) l) := by
      have h9 := HS.out
      rw [hdr, leftL, if_pos ha] at h9
      exact h9
     have hbnd := leftB_in x (d + 1) rr ha
     obtain ⟨c', n', k', A', la', ca', B', lb', cb'⟩ := hh
     have HREC : Hid (∀ X, Keeps [] wr X → Calls Tryz.prog 36 #[.agg #[.int .u8 (c' : Int), .int .u8 (n' : Int), .bool k', .slice A' la' ca', .slice B' lb' cb'], .int .i64 rr, .int .i64 ((d : Int) + 1)] X fun e w' => e = .returned (.int .i64 (leftB (d + 1) rr x)) ∧ Keeps [] X w') := fun X hk => by
      have h9 := IH.out x hmem (d + 1) rr ⟨c', n', k', A', la', ca', B', lb', cb'⟩ X (by omega) ha hrr.2 (BerAt.grow hk x _ hat)
      rw [show ((d + 1 : Nat) : Int) = (d : Int) + 1 by omega] at h9
      exact h9
     clear hx hat hc hdr hxx hmem HS
     go_wp2_with fail
     refine (HREC.out _ (Keeps.refl [] _)).mono ?_
     rintro e w2 ⟨rfl, hk2⟩
     have HK2 := Lib.hid (HKR.out.trans' hk2)
     have HBX2 := Lib.hid (blk_keep HBX.out hk2 (by simp))
     clear hk2
     generalize leftB (d + 1) rr x = sx at *
     go_wp2_with fail
     go_roundw
     case rel => exact ⟨sx, j + 1, rfl, by go_num, by omega, by omega, HS2, HK2.out, HBX2.out⟩
     case measure => simp [intOf]; omega
    ·have HE : Hid (leftL (d + 1) (r - 1 - (la : Int)) l = rr) := by
      have h9 := HS.out
      show _ = _
      rw [← h9]
      by_cases hlt : j < lb
      ·rw [List.drop_eq_getElem_cons (by have := HL.out; omega), leftL, if_neg (fun q => hgo ⟨hlt, q⟩)]
      ·rw [List.drop_of_length_le (by have := HL.out; omega), leftL]
     by_cases hlt : j < lb
     ·have ha : ¬ 0 ≤ rr := fun q => hgo ⟨hlt, q⟩
      go_wp2_with fail
      go_ret
      exact ⟨by rw [HEQ.out, HE.out]; rfl, HKR.out⟩
     ·go_wp2_with fail
      go_ret
      exact ⟨by rw [HEQ.out, HE.out]; rfl, HKR.out⟩

end Go.Proofs.YtbfebljahjmjfaaGreatDoor
/- filter: the law FilterValues, on values of filters of many and of having one; walked. -/
namespace Go.Proofs.YtbfebljahjmjfaaGreatDoor
open Go.RowKit Go.Shelf
set_option linter.unusedVariables false
set_option linter.unusedSimpArgs false
set_option maxRecDepth 100000

/-- What the two Ofs answer is alike. -/
def TwoV (b : Bool) (n : Int) (X : World) (ha hb : FH) : Prop :=
 ∃ ta tb, FilAt X ta ha ∧ FilAt X tb hb ∧ sameF ta tb = true ∧ (b = true ∧ n = 0 ∨ b = false ∧ n = 180 ∧ ha = ⟨0, none, 0, 0, [], []⟩ ∧ hb = ⟨0, none, 0, 0, [], []⟩)
set_option maxHeartbeats 8000000 in
theorem filtervalues_of (f : FV) (h : BH) (w : World) (hV : BerAt w (valF f) h) (hf : hasF f = true) (ho : orF f = true) (hsz : szV f ≤ 100000) (hck : checkB (valF f) = 0) (hbd : maxB (valF f) + 65546 * hgtB (valF f) ≤ 4611686018427380000) (hnb : nodesB (valF f) ≤ 1000000000) (hlv : 0 ≤ leftB 1 3000 (valF f)) (heq : (ofP (valF f) = some (lowF f) ∧ dF 1 f = true ∧ rightF (lowF f) = true) ∨ (ofP (valF f) = none ∧ (dF 1 f = false ∨ rightF (lowF f) = false))) (hG : SgnAt w) (hs : SynAt w) (hN : NumsAt w) :
  Calls Tryz.prog 14 #[h.val] w fun e w' => e = .returned (.bool true) ∧ Keeps [] w w' := by
 have HKN := Lib.hid (fun X (hX : Keeps [] w X) => known8_is X (hG.keep hX) (hs.keep hX (by simp)))
 have HLV := Lib.hid (fun X (hX : Keeps [] w X) => valsW_is (valF f) 1 3000 h X (by omega) (by omega) (by omega) (BerAt.grow hX _ _ hV))
 have HFP := Lib.hid (fun X (hX : Keeps [] w X) => fof_is (valF f) h X (hN.keep hX) (BerAt.grow hX _ _ hV) (has_mild f hf).2 (fun x n hx => by
  rw [rv_val f 1 0 hf] at hx
  cases hc : cntF 1 0 f with
  | none => rw [hc] at hx; cases hx
  | some m =>
   rw [hc] at hx
   simp at hx
   rw [← hx.1]
   exact (has_mild f hf).1) hnb)
 have HRP := Lib.hid (fun X (hX : Keeps [] w X) => rofv_is f h X (BerAt.grow hX _ _ hV) hf ho hsz hck hbd)
 have HRS := Lib.hid (fun ta tb ha hb X (hA : FilAt X ta ha) (hB : FilAt X tb hb) => rsame8_is ta tb ha hb X hA hB)
 have HQ := Lib.hid heq
 obtain ⟨z, hz⟩ : ∃ z, leftB 1 3000 (valF f) = z := ⟨_, rfl⟩
 rw [hz] at HLV hlv
 obtain ⟨cv, nv, kv, Av, lav, cav, Bv, lbv, cbv⟩ := h
 have hzn : ¬ z < 0 := by omega
 have HB0 := Lib.hid (heap_new8 w (.cells #[.int .u8 (cv : Int), .int .u8 (nv : Int), .bool kv, .slice Av lav cav, .slice Bv lbv cbv] 40))
 have HK0 : Hid (Keeps [] w (w.alloc (.cells #[.int .u8 (cv : Int), .int .u8 (nv : Int), .bool kv, .slice Av lav cav, .slice Bv lbv cbv] 40))) := (Keeps.refl [] w).alloc _
 unfold BH.val at *
 dsimp only at *
 clear hV hf ho hsz hck hbd hnb hlv heq hG hs hN hz
 obtain ⟨⟨g0, g1, g2, g3, g4⟩, _⟩ := five_facts HB0.out
 go_enter Tryz.func14, Tryz.ntmps14
 go_wp2_with fail
 refine (HLV.out _ HK0.out).mono ?_
 rintro e w0 ⟨rfl, hk0⟩
 have HB9 := Lib.hid (blk_keep HB0.out hk0 (by simp))
 have HK9 := Lib.hid (HK0.out.trans' hk0)
 clear hk0 g0 g1 g2 g3 g4
 obtain ⟨⟨g0, g1, g2, g3, g4⟩, _⟩ := five_facts HB9.out
 go_wp2_with fail
 refine (HFP.out _ HK9.out).mono ?_
 intro e w1 hq1
 have hq1' : ∃ ha : FH, ∃ x : Int, e = .returned (.tuple #[FH.val ha, .int .i64 x]) ∧ ((∃ t, ofP (valF f) = some t ∧ x = 0 ∧ FilAt w1 t ha) ∨ ofP (valF f) = none ∧ x = 180 ∧ ha = ⟨0, none, 0, 0, [], []⟩) := by
  rcases hq1.1 with ⟨t, h, h1, h2, h4⟩ | ⟨h1, h2⟩
  ·exact ⟨h, 0, h2, .inl ⟨t, h1, rfl, h4⟩⟩
  ·exact ⟨_, 180, h2, .inr ⟨h1, rfl, rfl⟩⟩
 have hk1 := HK9.out.trans' hq1.2
 have HBA := Lib.hid (blk_keep HB9.out hq1.2 (by simp))
 clear hq1
 obtain ⟨ha, x, rfl, hcA⟩ := hq1'
 have HCA := Lib.hid hcA
 obtain ⟨k, B, lb, cb, s, v⟩ := ha
 have HKA : Hid (Keeps [] w1 (w1.alloc (.cells #[.int .i64 k, .slice B lb cb, .string ⟨s.toArray⟩, .string ⟨v.toArray⟩] 26))) := (Keeps.refl [] w1).alloc _
 have HXA := Lib.hid (heap_new8 w1 (.cells #[.int .i64 k, .slice B lb cb, .string ⟨s.toArray⟩, .string ⟨v.toArray⟩] 26))
 have HK1 := Lib.hid (hk1.trans' HKA.out)
 clear hcA hk1 g0 g1 g2 g3 g4
 obtain ⟨⟨g0, g1, g2, g3, g4⟩, _⟩ := five_facts (blk_keep HBA.out HKA.out (by simp))
 unfold FH.val tv at *
 dsimp only at *
 go_wp2_with fail
 refine (HRP.out _ HK1.out).mono ?_
 intro e w2 hq2
 have hq2' : ∃ hb : FH, ∃ y : Bool, e = .returned (.tuple #[FH.val hb, .bool y]) ∧ TwoV y x w2 ⟨k, B, lb, cb, s, v⟩ hb := by
  have hkk := hq2.2.2
  rcases HQ.out with ⟨e1, e2, e3⟩ | ⟨e1, e2⟩
  ·rcases HCA.out with ⟨t, h1, rfl, h4⟩ | ⟨h1, rfl, h5⟩
   ·rw [e1] at h1
    injection h1 with h1
    subst h1
    obtain ⟨hb, h6, h7⟩ := hq2.1 e2 e3
    exact ⟨hb, true, h6, lowF f, lowF f, FilAt.grow (HKA.out.trans' hkk) _ _ h4, h7, sameF_refl _, .inl ⟨rfl, rfl⟩⟩
   ·rw [e1] at h1; cases h1
  ·rcases HCA.out with ⟨t, h1, rfl, h4⟩ | ⟨h1, rfl, h5⟩
   ·rw [e1] at h1; cases h1
   ·exact ⟨_, false, hq2.2.1 e2, .mk 0 [] [] [], .mk 0 [] [] [], by rw [h5]; exact filAt_zero _, filAt_zero _, sameF_refl _, .inr ⟨rfl, rfl, h5, rfl⟩⟩
 have hk2 := hq2.2.2
 clear hq2
 obtain ⟨hb, y, rfl, ta, tb, hA, hB, hsm, hyx⟩ := hq2'
 obtain ⟨k', B', lb', cb', s', v'⟩ := hb
 have hkb := hk2.alloc (.cells #[.int .i64 k', .slice B' lb' cb', .string ⟨s'.toArray⟩, .string ⟨v'.toArray⟩] 26)
 have HKB : Hid (Keeps [] w2 (w2.alloc (.cells #[.int .i64 k', .slice B' lb' cb', .string ⟨s'.toArray⟩, .string ⟨v'.toArray⟩] 26))) := (Keeps.refl [] w2).alloc _
 have HXA2 := Lib.hid (blk_keep HXA.out hkb (by simp))
 have HXB2 := Lib.hid (heap_new8 w2 (.cells #[.int .i64 k', .slice B' lb' cb', .string ⟨s'.toArray⟩, .string ⟨v'.toArray⟩] 26))
 have HK2 := Lib.hid (HK1.out.trans' hkb)
 have HCALL := Lib.hid (HRS.out ta tb ⟨k, B, lb, cb, s, v⟩ ⟨k', B', lb', cb', s', v'⟩ _ (FilAt.grow HKB.out ta _ hA) (FilAt.grow HKB.out tb _ hB))
 rw [hsm] at HCALL
 obtain ⟨⟨z0, z1, z2, z3⟩, _⟩ := four_facts8 HXA2.out
 obtain ⟨⟨y0, y1, y2, y3⟩, _⟩ := four_facts8 HXB2.out
 clear hk2 hkb hA hB hsm
 unfold FH.val tv at *
 dsimp only at *
 rcases hyx with ⟨rfl, rfl⟩ | ⟨rfl, rfl, h5, h6⟩
 ·go_wp2_with fail
  refine HCALL.out.mono ?_
  rintro e w3 ⟨rfl, hk3⟩
  have HK3 := Lib.hid (HK2.out.trans' hk3)
  clear hk3
  go_wp2_with fail
  refine (HKN.out _ HK3.out).mono ?_
  rintro e w9 ⟨rfl, hk9⟩
  have HK9 := Lib.hid (HK3.out.trans' hk9)
  clear hk9
  go_wp2_with fail
  go_ret
  exact ⟨by first | rfl | simp, HK9.out⟩
 ·injection h5 with h5 q1 q2 q3 q4 q5
  subst h5 q1 q2 q3 q4 q5
  injection h6 with h6 q1 q2 q3 q4 q5
  subst h6 q1 q2 q3 q4 q5
  go_wp2_with fail
  refine HCALL.out.mono ?_
  rintro e w3 ⟨rfl, hk3⟩
  have HK3 := Lib.hid (HK2.out.trans' hk3)
  clear hk3
  go_wp2_with fail
  refine (HKN.out _ HK3.out).mono ?_
  rintro e w9 ⟨rfl, hk9⟩
  have HK9 := Lib.hid (HK3.out.trans' hk9)
  clear hk9
  go_wp2_with fail
  go_ret
  exact ⟨by first | rfl | simp, HK9.out⟩
end Go.Proofs.YtbfebljahjmjfaaGreatDoor
/- filter: what FilterBounds makes, as words. -/
namespace Go.Proofs.YtbfebljahjmjfaaGreatDoor
open Go.RowKit Go.Shelf
set_option linter.unusedVariables false
set_option linter.unusedSimpArgs false
set_option maxRecDepth 100000

/-- Who has an a. -/
def hasA : FV := .mk 6 [] [97] []
/-- Not of not of .. of it: so many. -/
def nestN : Nat → FV
 | 0 => hasA
 | n + 1 => .mk 3 [nestN n] [] []
/-- One of so many. -/
def manyN (n : Nat) : FV := .mk 2 (List.replicate n hasA) [] []
theorem nest_hasF : ∀ n, hasF (nestN n) = true
 | 0 => by decide
 | n + 1 => by
  have := nest_hasF n
  simp [nestN, hasF, hasL, this]
theorem rep_hasL : ∀ n, hasL (List.replicate n hasA) = true
 | 0 => rfl
 | n + 1 => by
  rw [List.replicate_succ]
  simp only [hasL, rep_hasL n, Bool.and_true]
  decide
theorem many_hasF (n : Nat) : hasF (manyN n) = true := by
 unfold manyN
 simp [hasF, rep_hasL]
theorem many_or : ∀ n : Fin 211, orF (manyN n.val) = true := by decide +kernel
theorem nest_right : ∀ n : Fin 30, rightF (nestN n.val) = decide (n.val + 1 ≤ 16) := by decide +kernel
theorem many_right : ∀ n : Fin 211, rightF (manyN n.val) = decide (n.val ≤ 199) := by decide +kernel
theorem nest_len : ∀ n : Fin 30, (rtxF (nestN n.val)).length ≤ 3000 := by decide +kernel
theorem many_len : ∀ n : Fin 211, (rtxF (manyN n.val)).length ≤ 3000 := by decide +kernel
theorem rep_low : ∀ n, lowFL (List.replicate n hasA) = List.replicate n hasA
 | 0 => rfl
 | n + 1 => by
  rw [List.replicate_succ]
  simp only [lowFL, rep_low n]
  rfl
theorem many_low (n : Nat) : lowF (manyN n) = manyN n := by
 unfold manyN
 simp only [lowF, rep_low]
 rfl
theorem many_check : ∀ n : Fin 211, checkB (valF (manyN n.val)) = 0 := by decide +kernel
theorem many_big : ∀ n : Fin 211, maxB (valF (manyN n.val)) + 65546 * hgtB (valF (manyN n.val)) ≤ 4611686018427380000 ∧ nodesB (valF (manyN n.val)) ≤ 1000000000 ∧ szV (manyN n.val) ≤ 100000 ∧ 0 ≤ leftB 1 3000 (valF (manyN n.val)) ∧ dF 1 (manyN n.val) = true := by decide +kernel
theorem many_cnt : ∀ n : Fin 211, (cntF 1 0 (manyN n.val)).isSome = decide (n.val ≤ 199) := by decide +kernel
mutual
theorem sameB_refl2 : ∀ t : BV, sameB t t = true
 | .mk c n k b l => by simp [sameB, sameL_refl2 l]
theorem sameL_refl2 : ∀ l : List BV, sameL l l = true
 | [] => by simp [sameL]
 | t :: r => by simp [sameL, sameB_refl2 t, sameL_refl2 r]
end
theorem many_of (n : Nat) (hn : n ≤ 210) : (ofP (valF (manyN n)) = some (lowF (manyN n)) ∧ dF 1 (manyN n) = true ∧ rightF (lowF (manyN n)) = true) ∨ (ofP (valF (manyN n)) = none ∧ (dF 1 (manyN n) = false ∨ rightF (lowF (manyN n)) = false)) := by
 have h1 := many_right ⟨n, by omega⟩
 have h2 := many_cnt ⟨n, by omega⟩
 have h3 := (many_big ⟨n, by omega⟩).2.2.2.2
 dsimp only at h1 h2 h3
 rw [many_low]
 unfold ofP
 rw [rv_val _ 1 0 (many_hasF n)]
 by_cases h : n ≤ 199
 ·have h4 : decide (n ≤ 199) = true := by simpa using h
  rw [h4] at h1 h2
  obtain ⟨m, hm⟩ := Option.isSome_iff_exists.1 h2
  rw [hm]
  dsimp only [Option.map_some]
  rw [if_pos h1, if_pos (sameB_refl2 _), many_low]
  exact .inl ⟨rfl, h3, h1⟩
 ·have h4 : decide (n ≤ 199) = false := by simpa using h
  rw [h4] at h1 h2
  cases hm : cntF 1 0 (manyN n) with
  | some m => rw [hm] at h2; cases h2
  | none => exact .inr ⟨rfl, .inr h1⟩
end Go.Proofs.YtbfebljahjmjfaaGreatDoor
/- filter: the document's digit; walked. -/
namespace Go.Proofs.YtbfebljahjmjfaaGreatDoor
open Go.RowKit Go.Shelf
set_option linter.unusedVariables false
set_option linter.unusedSimpArgs false
set_option maxRecDepth 100000

/-- A digit's number to the base 16; -1: it is none. -/
def digZ (c : UInt8) : Int := match dig1 c.toNat with | some k => (k : Int) | none => -1
theorem digZ_in (c : UInt8) : -1 ≤ digZ c ∧ digZ c ≤ 15 := by
 unfold digZ
 cases h : dig1 c.toNat with
 | none => exact ⟨by decide, by decide⟩
 | some k =>
  have := dig_bound h
  show -1 ≤ (k : Int) ∧ (k : Int) ≤ 15
  omega
theorem rdigit8_is (c : UInt8) (w : World) : Calls Tryz.prog 139 #[.int .u8 (c.toNat : Int)] w fun e w' => e = .returned (.int .i64 (digZ c)) ∧ w = w' := by
 have hc : c.toNat < 256 := c.toNat_lt
 obtain ⟨r, hr⟩ : ∃ r, digZ c = r := ⟨_, rfl⟩
 rw [hr]
 unfold digZ dig1 at hr
 generalize c.toNat = n at *
 obtain ⟨z, hz⟩ : ∃ z : Int, (n : Int) = z := ⟨_, rfl⟩
 have hz0 : 0 ≤ z := by omega
 have hz2 : z < 256 := by omega
 rw [hz]
 by_cases h1 : 48 ≤ n ∧ n ≤ 57
 ·have HR : Hid (z - 48 = r) := by rw [if_pos h1] at hr; dsimp only at hr; show _ = _; omega
  have a1 : (48 : Int) ≤ z := by omega
  have a2 : z ≤ 57 := by omega
  clear hr hz h1 hc
  go_enter Tryz.func139, Tryz.ntmps139
  go_wp2_with fail
  go_ret
  exact ⟨by rw [← HR.out]; first | rfl | simp, rfl⟩
 ·by_cases h2 : 97 ≤ n ∧ n ≤ 102
  ·have HR : Hid (z - 87 = r) := by rw [if_neg h1, if_pos h2] at hr; dsimp only at hr; show _ = _; omega
   have a1 : (97 : Int) ≤ z := by omega
   have a2 : z ≤ 102 := by omega
   have a3 : ¬ z ≤ 57 := by omega
   have a4 : (48 : Int) ≤ z := by omega
   clear hr hz h1 h2 hc
   go_enter Tryz.func139, Tryz.ntmps139
   go_wp2_with fail
   go_ret
   exact ⟨by rw [← HR.out]; first | rfl | simp, rfl⟩
  ·by_cases h3 : 65 ≤ n ∧ n ≤ 70
   ·have HR : Hid (z - 55 = r) := by rw [if_neg h1, if_neg h2, if_pos h3] at hr; dsimp only at hr; show _ = _; omega
    have a1 : (65 : Int) ≤ z := by omega
    have a2 : z ≤ 70 := by omega
    have a3 : ¬ z ≤ 57 := by omega
    have a4 : (48 : Int) ≤ z := by omega
    have a5 : ¬ (97 : Int) ≤ z := by omega
    clear hr hz h1 h2 h3 hc
    go_enter Tryz.func139, Tryz.ntmps139
    go_wp2_with fail
    go_ret
    exact ⟨by rw [← HR.out]; first | rfl | simp, rfl⟩
   ·have HR : Hid (-1 = r) := by rw [if_neg h1, if_neg h2, if_neg h3] at hr; exact hr
    have q1 : z < 48 ∨ 57 < z := by omega
    have q2 : z < 97 ∨ 102 < z := by omega
    have q3 : z < 65 ∨ 70 < z := by omega
    clear hr hz h1 h2 h3 hc
    rcases (by omega : z < 48 ∨ (57 < z ∧ z < 65) ∨ (70 < z ∧ z < 97) ∨ 102 < z) with h | ⟨h, h'⟩ | ⟨h, h'⟩ | h
    all_goals clear q1 q2 q3
    ·have b1 : ¬ (48 : Int) ≤ z := by omega
     have b2 : ¬ (97 : Int) ≤ z := by omega
     have b3 : ¬ (65 : Int) ≤ z := by omega
     go_enter Tryz.func139, Tryz.ntmps139
     go_wp2_with fail
     go_ret
     exact ⟨by rw [← HR.out]; first | rfl | simp, rfl⟩
    ·have b0 : (48 : Int) ≤ z := by omega
     have b1 : ¬ z ≤ 57 := by omega
     have b2 : ¬ (97 : Int) ≤ z := by omega
     have b3 : ¬ (65 : Int) ≤ z := by omega
     go_enter Tryz.func139, Tryz.ntmps139
     go_wp2_with fail
     go_ret
     exact ⟨by rw [← HR.out]; first | rfl | simp, rfl⟩
    ·have b0 : (48 : Int) ≤ z := by omega
     have b1 : ¬ z ≤ 57 := by omega
     have b2 : ¬ (97 : Int) ≤ z := by omega
     have b3 : (65 : Int) ≤ z := by omega
     have b4 : ¬ z ≤ 70 := by omega
     go_enter Tryz.func139, Tryz.ntmps139
     go_wp2_with fail
     go_ret
     exact ⟨by rw [← HR.out]; first | rfl | simp, rfl⟩
    ·have b0 : (48 : Int) ≤ z := by omega
     have b1 : ¬ z ≤ 57 := by omega
     have b2 : (97 : Int) ≤ z := by omega
     have b2' : ¬ z ≤ 102 := by omega
     have b3 : (65 : Int) ≤ z := by omega
     have b4 : ¬ z ≤ 70 := by omega
     go_enter Tryz.func139, Tryz.ntmps139
     go_wp2_with fail
     go_ret
     exact ⟨by rw [← HR.out]; first | rfl | simp, rfl⟩
end Go.Proofs.YtbfebljahjmjfaaGreatDoor
