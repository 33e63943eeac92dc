import Derived.Test.YtbfebljahjmjfaaGreatDoorQ37
import Derived.Test.YtbfebljahjmjfaaGreatDoorQ49
import Derived.Test.YtbfebljahjmjfaaGreatDoorQ46
import Derived.Test.YtbfebljahjmjfaaGreatDoorQ14
import Derived.BigQuiet
/- filter: the law FilterParses, whole. -/
namespace Go.Proofs.YtbfebljahjmjfaaGreatDoor
open Go.RowKit Go.Shelf
set_option linter.unusedVariables false
set_option linter.unusedSimpArgs false
set_option maxRecDepth 100000

theorem filterparses_any (T : Txt) (w : World) (hT : T.length ≤ 9223372036854775807) (hG : SgnAt w) (hs : SynAt w) :
  Calls Tryz.prog 3 #[tv T] w fun e w' => e = .returned (.bool true) ∧ Keeps [] w w' :=
 filterparses_of T w hT hG hs (fun h X => rone_is T (by omega) 16 1 0 X (by omega) (by omega))
end Go.Proofs.YtbfebljahjmjfaaGreatDoor
/- filter: the law FilterBounds; walked. -/
namespace Go.Proofs.YtbfebljahjmjfaaGreatDoor
open Go.RowKit Go.Shelf
set_option linter.unusedVariables false
set_option linter.unusedSimpArgs false
set_option maxRecDepth 100000

def hA : FH := ⟨6, none, 0, 0, [97], []⟩
theorem hasA_at (X : World) : FilAt X hasA hA := by
 unfold hasA hA FilAt
 exact ⟨rfl, rfl, rfl, by decide, by decide, by decide, by decide, rfl, Nat.le_refl _, by decide, trivial⟩
/-- The nest, as the first loop's box holds it. -/
def NestI (g5 n : Nat) (wr : World) : Prop := ∃ (k : Int) (B : Option Addr) (lb cb : Nat) (s v : Txt), wr.heap[g5]? = some (.cells #[.int .i64 k, .slice B lb cb, .string ⟨s.toArray⟩, .string ⟨v.toArray⟩] 26 (0, 0)) ∧ ∀ X, Keeps [g5] wr X → FilAt X (nestN n) ⟨k, B, lb, cb, s, v⟩
/-- The many, as the second loop's box holds them. -/
def ManyI (g7 j : Nat) (wr : World) : Prop := ∃ (A : Option Addr) (c : Nat), wr.heap[g7]? = some (.cells #[.int .i64 2, .slice A j c, .string ⟨#[]⟩, .string ⟨#[]⟩] 26 (0, 0)) ∧ wr.ownsRow (g7 + 1) 26 4 (.slice A j c) j (headsF (List.replicate j hA))
theorem ManyI.at_ {g7 j : Nat} {wr : World} {A : Option Addr} {c : Nat} (h : wr.ownsRow (g7 + 1) 26 4 (.slice A j c) j (headsF (List.replicate j hA))) (X : World) (hX : Keeps [] wr X) : FilAt X (manyN j) ⟨2, A, j, c, [], []⟩ := by
 have hrow := own_keep h hX (fun b hb hm => by cases hm)
 have hcap := cap_of_own hrow
 unfold manyN
 refine ⟨rfl, rfl, rfl, by decide, by decide, by simp, by simp, by simp, hcap.1, hcap.2, fils_own hrow (by simp) (by simp) (fun i t h ht hh => ?_)⟩
 have h1 : t = hasA := by have := List.mem_of_getElem? ht; exact List.eq_of_mem_replicate this
 have h2 : h = hA := by have := List.mem_of_getElem? hh; exact List.eq_of_mem_replicate this
 rw [h1, h2]
 exact hasA_at X
theorem nest_up {X : World} {n g : Nat} {h : FH} (hc : ∀ q u, h.list[q]? = some u → X.cell? ⟨g, q, none⟩ = some u) (ht : FilAt X (nestN n) h) : FilAt X (nestN (n + 1)) ⟨3, some ⟨g, 0, none⟩, 1, 1, [], []⟩ := by
 unfold nestN
 refine ⟨rfl, rfl, rfl, by decide, by decide, by simp, by simp, rfl, Nat.le_refl _, by show (1 : Nat) ≤ _; omega, ⟨g, 0, h, rfl, fun q u hu => ?_, ht⟩, trivial⟩
 have h9 := hc q u hu
 rw [Nat.zero_mul, Nat.add_zero, Nat.zero_add]
 exact h9
theorem many_step {g7 j : Nat} {wo wr w8 : World} {A A8 : Option Addr} {c c8 : Nat} (hg : wo.heap.size = g7) (hk : Keeps [] wo wr) (hb : wr.heap[g7]? = some (.cells #[.int .i64 2, .slice A j c, .string ⟨#[]⟩, .string ⟨#[]⟩] 26 (0, 0))) (hr : wr.ownsRow (g7 + 1) 26 4 (.slice A j c) j (headsF (List.replicate j hA))) (ho8 : w8.ownsRow (g7 + 1) 26 4 (.slice A8 (j + 1) c8) (j + 1) (headsF (List.replicate j hA) ++ FH.list hA)) (hg8 : (wr.alloc (.cells #[.int .i64 6, .slice none 0 0, .string ⟨#[97]⟩, .string ⟨#[]⟩] 26)).grownBy w8 (Value.slice A j c).ownBlock) :
  w8.heap[g7]? = some (.cells #[.int .i64 2, .slice A j c, .string ⟨#[]⟩, .string ⟨#[]⟩] 26 (0, 0)) ∧ ManyI g7 (j + 1) (w8.setCell ⟨g7, 1, none⟩ (.slice A8 (j + 1) c8)) ∧ Keeps [] wo (w8.setCell ⟨g7, 1, none⟩ (.slice A8 (j + 1) c8)) := by
 have k8 : Keeps ((Value.slice A j c).ownBlock.toList) (wr.alloc (.cells #[.int .i64 6, .slice none 0 0, .string ⟨#[97]⟩, .string ⟨#[]⟩] 26)) w8 := Keeps.of_grown hg8 (fun x hx => .inl (by rw [hx]; simp))
 have hvl : ∀ x ∈ (Value.slice A j c).ownBlock.toList, g7 + 1 ≤ x := fun x hx => (hr.lt x (by simpa using hx)).1
 have hka : Keeps [] wr (wr.alloc (.cells #[.int .i64 6, .slice none 0 0, .string ⟨#[97]⟩, .string ⟨#[]⟩] 26)) := (Keeps.refl [] wr).alloc _
 have hb8 : w8.heap[g7]? = some (.cells #[.int .i64 2, .slice A j c, .string ⟨#[]⟩, .string ⟨#[]⟩] 26 (0, 0)) := blk_keep (blk_keep hb hka (by simp)) k8 (fun hm => by have := hvl g7 hm; omega)
 have k9 : Keeps [g7] w8 (w8.setCell ⟨g7, 1, none⟩ (.slice A8 (j + 1) c8)) := (Keeps.refl [g7] w8).setCell (.inl (by simp)) _
 refine ⟨hb8, ⟨A8, c8, heap_setCell_same w8 g7 1 _ _ _ hb8, ?_⟩, ?_⟩
 ·rw [List.replicate_succ', headsF_snoc]
  exact own_keep ho8 k9 (fun b hb hm => by have := (ho8.lt b hb).1; simp at hm; omega)
 ·have k89 : Keeps (g7 :: (Value.slice A j c).ownBlock.toList) (wr.alloc (.cells #[.int .i64 6, .slice none 0 0, .string ⟨#[97]⟩, .string ⟨#[]⟩] 26)) (w8.setCell ⟨g7, 1, none⟩ (.slice A8 (j + 1) c8)) := (k8.mono (cs := g7 :: (Value.slice A j c).ownBlock.toList) (fun x hx => .inl (List.mem_cons_of_mem _ hx))).trans k9 (fun x hx => .inl (by simp at hx; simp [hx]))
  refine (hk.trans' hka).trans k89 (fun x hx => .inr ?_)
  rcases List.mem_cons.1 hx with hx | hx
  ·omega
  ·have := hvl x hx; omega
set_option maxHeartbeats 16000000 in
theorem filterbounds_any (a b : Int) (w : World) (ha : -9223372036854775808 ≤ a ∧ a ≤ 9223372036854775807) (hb : -9223372036854775808 ≤ b ∧ b ≤ 9223372036854775807) (hG : SgnAt w) (hs : SynAt w) (hN : NumsAt w) :
  Calls Tryz.prog 4 #[.int .i64 a, .int .i64 b] w fun e w' => e = .returned (.bool true) ∧ Keeps [] w w' := by
 obtain ⟨iu, hiu, hzu0, hzu1, hzu2⟩ := info_parts fil_info8
 have HKN := Lib.hid (fun X (hX : Keeps [] w X) => known8_is X (hG.keep hX) (hs.keep hX (by simp)))
 have HFP := Lib.hid (fun T X (hX : Keeps [] w X) (hT : T.length ≤ 3000) => filterparses_any T X (by omega) (hG.keep hX) (hs.keep hX (by simp)))
 have HTX := Lib.hid (fun t h X (ht : FilAt X t h) h1 h2 => rtext8_is t h X ht h1 h2)
 have HCK := Lib.hid (fun t h X (ht : FilAt X t h) => check8_is t h X ht)
 have HVL := Lib.hid (fun t h X (ht : FilAt X t h) h1 h2 h3 => rval8_is t h X ht h1 h2 h3)
 have HGG := Lib.hid hG
 have HSS := Lib.hid hs
 have HNN := Lib.hid hN
 clear hG hs hN
 by_cases hbad : a < 1 ∨ 30 < a ∨ b < 0 ∨ 210 < b
 ·have HK0 := Lib.hid (Keeps.refl [] w)
  have KNOWN : Hid (Calls Tryz.prog 8 #[] w fun e w' => e = .returned (.bool true) ∧ Keeps [] w w') := HKN.out w (Keeps.refl _ _)
  by_cases q1 : a < 1
  ·go_enter Tryz.func4, Tryz.ntmps4
   go_wp2_with fail
   refine KNOWN.out.mono ?_
   rintro e w9 ⟨rfl, hk9⟩
   have HK9 := Lib.hid hk9
   clear hk9
   go_wp2_with fail
   go_ret
   exact ⟨by first | rfl | simp, HK9.out⟩
  ·by_cases q2 : 30 < a
   ·go_enter Tryz.func4, Tryz.ntmps4
    go_wp2_with fail
    refine KNOWN.out.mono ?_
    rintro e w9 ⟨rfl, hk9⟩
    have HK9 := Lib.hid hk9
    clear hk9
    go_wp2_with fail
    go_ret
    exact ⟨by first | rfl | simp, HK9.out⟩
   ·by_cases q3 : b < 0
    ·go_enter Tryz.func4, Tryz.ntmps4
     go_wp2_with fail
     refine KNOWN.out.mono ?_
     rintro e w9 ⟨rfl, hk9⟩
     have HK9 := Lib.hid hk9
     clear hk9
     go_wp2_with fail
     go_ret
     exact ⟨by first | rfl | simp, HK9.out⟩
    ·have q4 : 210 < b := by omega
     go_enter Tryz.func4, Tryz.ntmps4
     go_wp2_with fail
     refine KNOWN.out.mono ?_
     rintro e w9 ⟨rfl, hk9⟩
     have HK9 := Lib.hid hk9
     clear hk9
     go_wp2_with fail
     go_ret
     exact ⟨by first | rfl | simp, HK9.out⟩
 ·have q1 : ¬ a < 1 := by omega
  have q2 : ¬ 30 < a := by omega
  have q3 : ¬ b < 0 := by omega
  have q4 : ¬ 210 < b := by omega
  obtain ⟨D, hD⟩ : ∃ D : Nat, a = (D : Int) + 1 := ⟨(a - 1).toNat, by omega⟩
  obtain ⟨M, hM⟩ : ∃ M : Nat, b = (M : Int) := ⟨b.toNat, by omega⟩
  have hD30 : D < 30 := by omega
  have hM210 : M < 211 := by omega
  have HD := Lib.hid hD
  have HM := Lib.hid hM
  obtain ⟨g5, hg5⟩ : ∃ g5, w.heap.size = g5 := ⟨_, rfl⟩
  have hk1 : Keeps [] w (w.alloc (.cells #[.int .i64 6, .slice none 0 0, .string ⟨#[97]⟩, .string ⟨#[]⟩] 26)) := (Keeps.refl [] w).alloc _
  have hb1 := heap_new8 w (.cells #[.int .i64 6, .slice none 0 0, .string ⟨#[97]⟩, .string ⟨#[]⟩] 26)
  rw [hg5] at hb1
  have HI0 : Hid (NestI g5 0 (w.alloc (.cells #[.int .i64 6, .slice none 0 0, .string ⟨#[97]⟩, .string ⟨#[]⟩] 26))) := ⟨6, none, 0, 0, [97], [], hb1, fun X _ => hasA_at X⟩
  have HK1 := Lib.hid hk1
  have HG5 := Lib.hid hg5
  clear hbad hD hM hk1 hb1 hg5 ha hb
  go_enter Tryz.func4, Tryz.ntmps4
  go_wp2_with fail
  rw [HG5.out]
  go_loopw [6] (fun i wr => ∃ n : Nat, i = .int .i64 ((n : Int) + 1) ∧ n ≤ D ∧ Hid (NestI g5 n wr) ∧ Hid (Keeps [] w wr)) (fun i _ => D + 1 - (intOf i).toNat)
  case atStart => exact ⟨0, rfl, Nat.zero_le _, HI0.out, HK1.out⟩
  case round =>
   obtain ⟨n, rfl, hn, HI, HKR⟩ := hrel
   obtain ⟨k, B, lb, cb, s, v, hbx, hfx⟩ := HI.out
   have HBX := Lib.hid hbx
   have HFX := Lib.hid hfx
   obtain ⟨⟨z0, z1, z2, z3⟩, ⟨f0, f1, f2, f3⟩⟩ := four_facts8 hbx
   clear hbx hfx HI
   have hsz5 : g5 < wr.heap.size := lt_of_heap HBX.out
   by_cases hlt : n < D
   ·have hni : (n : Int) + 1 < a := by have := HD.out; omega
    obtain ⟨W2, hW2⟩ : ∃ W2, wr.alloc (.cells #[.int .i64 k, .slice B lb cb, .string ⟨s.toArray⟩, .string ⟨v.toArray⟩] 26) = W2 := ⟨_, rfl⟩
    have hk2 : Keeps [] wr W2 := by rw [← hW2]; exact (Keeps.refl [] wr).alloc _
    have hb2 := heap_new8 wr (.cells #[.int .i64 k, .slice B lb cb, .string ⟨s.toArray⟩, .string ⟨v.toArray⟩] 26)
    rw [hW2] at hb2
    have HB5 := Lib.hid (blk_keep HBX.out hk2 (by simp))
    obtain ⟨⟨y0, y1, y2, y3⟩, ⟨e0, e1, e2, e3⟩⟩ := four_facts8 HB5.out
    have HK2 := Lib.hid hk2
    have HB2 := Lib.hid hb2
    have HKW : Hid (Keeps [] w ((((W2.setCell ⟨g5, 0, none⟩ (.int .i64 3)).setCell ⟨g5, 1, none⟩ (.slice (some ⟨wr.heap.size, 0, none⟩) 1 1)).setCell ⟨g5, 2, none⟩ (.string ⟨#[]⟩)).setCell ⟨g5, 3, none⟩ (.string ⟨#[]⟩))) := by
     have h9 : w.heap.size ≤ g5 := by rw [HG5.out]; exact Nat.le_refl _
     exact ((((HKR.out.trans' hk2).setCell (.inr h9) _).setCell (.inr h9) _).setCell (.inr h9) _).setCell (.inr h9) _
    have hks : Keeps [g5] W2 ((((W2.setCell ⟨g5, 0, none⟩ (.int .i64 3)).setCell ⟨g5, 1, none⟩ (.slice (some ⟨wr.heap.size, 0, none⟩) 1 1)).setCell ⟨g5, 2, none⟩ (.string ⟨#[]⟩)).setCell ⟨g5, 3, none⟩ (.string ⟨#[]⟩)) := ((((Keeps.refl [g5] W2).setCell (.inl (by simp)) _).setCell (.inl (by simp)) _).setCell (.inl (by simp)) _).setCell (.inl (by simp)) _
    have hrow := heap_setCell_same _ g5 3 _ _ (.string ⟨#[]⟩) (heap_setCell_same _ g5 2 _ _ (.string ⟨#[]⟩) (heap_setCell_same _ g5 1 _ _ (.slice (some ⟨wr.heap.size, 0, none⟩) 1 1) (heap_setCell_same _ g5 0 _ _ (.int .i64 3) HB5.out)))
    have HIN : Hid (NestI g5 (n + 1) ((((W2.setCell ⟨g5, 0, none⟩ (.int .i64 3)).setCell ⟨g5, 1, none⟩ (.slice (some ⟨wr.heap.size, 0, none⟩) 1 1)).setCell ⟨g5, 2, none⟩ (.string ⟨#[]⟩)).setCell ⟨g5, 3, none⟩ (.string ⟨#[]⟩))) := by
     refine ⟨3, some ⟨wr.heap.size, 0, none⟩, 1, 1, [], [], hrow, fun X hX => ?_⟩
     have hkX : Keeps [g5] W2 X := hks.trans hX (fun x hx => .inl hx)
     refine nest_up (h := ⟨k, B, lb, cb, s, v⟩) (fun q u hu => ?_) (HFX.out X ((HK2.out.mono (by simp)).trans hkX (fun x hx => .inl hx)))
     rw [cell_of_blk (blk_keep HB2.out hkX (by simp; omega))]
     simpa [FH.list, tv] using hu
    clear hk2 hb2 hks hrow
    go_wp2_with fail
    go_roundw
    case rel => exact ⟨n + 1, (by go_num), by omega, HIN.out, HKW.out⟩
    case measure => simp [intOf]; omega
   ·obtain rfl : n = D := by omega
    have hni : ¬ (n : Int) + 1 < a := by have := HD.out; omega
    obtain ⟨g7, hg7⟩ : ∃ g7, wr.heap.size = g7 := ⟨_, rfl⟩
    obtain ⟨W3, hW3⟩ : ∃ W3, wr.alloc (.cells #[.int .i64 2, .slice none 0 0, .string ⟨#[]⟩, .string ⟨#[]⟩] 26) = W3 := ⟨_, rfl⟩
    have hk3 : Keeps [] wr W3 := by rw [← hW3]; exact (Keeps.refl [] wr).alloc _
    have hb3 := heap_new8 wr (.cells #[.int .i64 2, .slice none 0 0, .string ⟨#[]⟩, .string ⟨#[]⟩] 26)
    rw [hW3, hg7] at hb3
    have HI3 : Hid (ManyI g7 0 W3) := ⟨none, 0, hb3, World.ownsRow_nil _ _ _ _⟩
    have HK3 := Lib.hid hk3
    have HW3 := Lib.hid hW3
    have HG7 := Lib.hid hg7
    clear hk3 hb3 hW3 hg7
    go_upto_region 9 with fail
    rw [HW3.out]
    try rw [HG7.out]
    clear z0 z1 z2 z3 f0 f1 f2 f3
    go_wp2_with fail
    obtain ⟨wo, hwo⟩ : ∃ wo : World, wo = wr := ⟨_, rfl⟩
    subst hwo
    go_loopw [8] (fun i wq => ∃ j : Nat, i = .int .i64 (j : Int) ∧ j ≤ M ∧ Hid (ManyI g7 j wq) ∧ Hid (Keeps [] wo wq)) (fun i _ => M - (intOf i).toNat)
    case atStart => exact ⟨0, rfl, Nat.zero_le _, HI3.out, HK3.out⟩
    case round =>
     obtain ⟨j, rfl, hj, HJ, HKQ⟩ := hrel
     obtain ⟨A, c, hbx7, hrow7⟩ := HJ.out
     have HB7 := Lib.hid hbx7
     have HR7 := Lib.hid hrow7
     obtain ⟨⟨z0, z1, z2, z3⟩, ⟨f0, f1, f2, f3⟩⟩ := four_facts8 hbx7
     have hg79 : wo.heap.size = g7 := HG7.out
     have hj210 : j ≤ 210 := by omega
     clear hbx7 hrow7 HJ
     by_cases hlt : j < M
     ·have hji : (j : Int) < b := by have := HM.out; omega
      have HK8 : Hid (Keeps [] wr (wr.alloc (.cells #[.int .i64 6, .slice none 0 0, .string ⟨#[97]⟩, .string ⟨#[]⟩] 26))) := (Keeps.refl [] wr).alloc _
      have HROW : Hid ((wr.alloc (.cells #[.int .i64 6, .slice none 0 0, .string ⟨#[97]⟩, .string ⟨#[]⟩] 26)).ownsRow (g7 + 1) 26 4 (.slice A j c) j (headsF (List.replicate j hA))) := own_keep HR7.out HK8.out (fun b hb hm => by cases hm)
      have HBX7 := Lib.hid (blk_keep HB7.out HK8.out (by simp))
      have HSZ : Hid (g7 + 1 ≤ (wr.alloc (.cells #[.int .i64 6, .slice none 0 0, .string ⟨#[97]⟩, .string ⟨#[]⟩] 26)).heap.size) := lt_of_heap HBX7.out
      have HSRC : Hid (Src (wr.alloc (.cells #[.int .i64 6, .slice none 0 0, .string ⟨#[97]⟩, .string ⟨#[]⟩] 26)) (some ⟨wr.heap.size, 0, none⟩) 1 (FH.list hA)) := src_one8 wr hA _
      have hg7i := HG7.out
      clear hg79 hg7i
      go_wp2_with (at_builtin; refine wpList_append_opt rfl (.tmp 40) (.tmp 42) 24 rfl (g7 + 1) 26 iu _ 4 64 Tryz.underlying24 hiu hzu0 hzu1 hzu2 rfl (by decide) (.slice A j c) j (headsF (List.replicate j hA)) rfl HROW.out (some ⟨wr.heap.size, 0, none⟩) 1 1 (FH.list hA) rfl rfl HSRC.out (by intro u hu; simp [FH.list, tv, hA] at hu; rcases hu with rfl | rfl | rfl | rfl <;> rfl) (by unfold maxLen; omega) (by omega) HSZ.out ?_; intro v8 w8 ho8 hg8 hs8; obtain ⟨A8, c8, hv8⟩ := own_slice ho8; subst hv8; have HST := Lib.hid (many_step HG7.out HKQ.out HB7.out HR7.out ho8 hg8); obtain ⟨⟨x0, x1, x2, x3⟩, xf0, xf1, xf2, xf3⟩ := four_facts8 HST.out.1; clear ho8 hg8 hs8)
      go_roundw
      case rel => exact ⟨j + 1, (by go_num), by omega, HST.out.2.1, HST.out.2.2⟩
      case measure => simp [intOf]; omega
     ·obtain rfl : j = M := by omega
      have hji : ¬ (j : Int) < b := by have := HM.out; omega
      have HBV := Lib.hid (blk_keep HBX.out HKQ.out (by simp))
      have HKV := Lib.hid (HKR.out.trans' HKQ.out)
      have HFV : Hid (∀ X, Keeps [] wr X → FilAt X (nestN n) ⟨k, B, lb, cb, s, v⟩) := fun X hX => HFX.out X ((HKQ.out.trans' hX).mono (by simp))
      have HGV : Hid (∀ X, Keeps [] wr X → FilAt X (manyN j) ⟨2, A, j, c, [], []⟩) := fun X hX => ManyI.at_ HR7.out X hX
      have hn30 : n < 30 := by omega
      have hj211 : j < 211 := by omega
      have hrn := nest_right ⟨n, hn30⟩
      have hrj := many_right ⟨j, hj211⟩
      have hln := nest_len ⟨n, hn30⟩
      have hlj := many_len ⟨j, hj211⟩
      have hsz := (many_big ⟨j, hj211⟩).2.2.1
      have hbg := many_big ⟨j, hj211⟩
      have hck := many_check ⟨j, hj211⟩
      have hor := many_or ⟨j, hj211⟩
      dsimp only at hrn hrj hln hlj hsz hbg hck hor
      have C1 := Lib.hid (fun X (hX : Keeps [] wr X) => HCK.out (nestN n) ⟨k, B, lb, cb, s, v⟩ X (HFV.out X hX))
      have C2 := Lib.hid (fun X (hX : Keeps [] wr X) => HCK.out (manyN j) ⟨2, A, j, c, [], []⟩ X (HGV.out X hX))
      have C3 := Lib.hid (fun X (hX : Keeps [] wr X) => HTX.out (nestN n) ⟨k, B, lb, cb, s, v⟩ X (HFV.out X hX) (nest_hasF n) (by omega))
      have C4 := Lib.hid (fun X (hX : Keeps [] wr X) => HFP.out (rtxF (nestN n)) X (HKV.out.trans' hX) hln)
      have C5 := Lib.hid (fun X (hX : Keeps [] wr X) => HTX.out (manyN j) ⟨2, A, j, c, [], []⟩ X (HGV.out X hX) (many_hasF j) (by omega))
      have C6 := Lib.hid (fun X (hX : Keeps [] wr X) => HFP.out (rtxF (manyN j)) X (HKV.out.trans' hX) hlj)
      have C7 := Lib.hid (fun X (hX : Keeps [] wr X) => HVL.out (manyN j) ⟨2, A, j, c, [], []⟩ X (HGV.out X hX) (many_hasF j) hor hsz)
      rw [many_low] at C7
      have C8 := Lib.hid (fun h X (hX : Keeps [] wr X) (hb : BerAt X (valF (manyN j)) h) => filtervalues_of (manyN j) h X hb (many_hasF j) hor hsz hck hbg.1 hbg.2.1 hbg.2.2.2.1 (many_of j (by omega)) (HGG.out.keep (HKV.out.trans' hX)) (HSS.out.keep (HKV.out.trans' hX) (by simp)) (HNN.out.keep (HKV.out.trans' hX)))
      have C9 := Lib.hid (fun X (hX : Keeps [] wr X) => HKN.out X (HKV.out.trans' hX))
      unfold ChkQ at C1 C2
      rw [hrn] at C1
      rw [hrj] at C2
      generalize rtxF (nestN n) = Tn at C3 C4
      generalize rtxF (manyN j) = Tj at C5 C6
      generalize valF (manyN j) = Vj at C7 C8
      unfold FH.val tv at C1 C2 C3 C5 C7
      unfold tv at C4 C6
      dsimp only at C1 C2 C3 C5 C7
      have hda : a = (n : Int) + 1 := HD.out
      have hmb : b = (j : Int) := HM.out
      have HKS := Lib.hid (Keeps.refl [] wr)
      clear hrn hrj hln hlj hsz hbg hck hor z0 z1 z2 z3 f0 f1 f2 f3 hg79
      by_cases hd : n + 1 ≤ 16
      ·have ha16 : a ≤ 16 := by omega
       rw [show decide (n + 1 ≤ 16) = true by simpa using hd] at C1
       by_cases hm : j ≤ 199
       ·have hb199 : b ≤ 199 := by omega
        rw [show decide (j ≤ 199) = true by simpa using hm] at C2
        simp only [if_true, if_false, Bool.false_eq_true] at C1 C2
        clear hd hm hda hmb
        obtain ⟨⟨z0, z1, z2, z3⟩, _⟩ := four_facts8 (blk_keep HBV.out HKS.out (by simp))
        obtain ⟨⟨y0, y1, y2, y3⟩, _⟩ := four_facts8 (blk_keep HB7.out HKS.out (by simp))
        go_wp2_with fail
        refine (C1.out _ HKS.out).mono ?_
        rintro e w1 ⟨rfl, hkc⟩
        have HKS1 := Lib.hid (HKS.out.trans' hkc)
        clear hkc z0 z1 z2 z3 y0 y1 y2 y3
        obtain ⟨⟨z0, z1, z2, z3⟩, _⟩ := four_facts8 (blk_keep HBV.out HKS1.out (by simp))
        obtain ⟨⟨y0, y1, y2, y3⟩, _⟩ := four_facts8 (blk_keep HB7.out HKS1.out (by simp))
        go_wp2_with fail
        refine (C2.out _ HKS1.out).mono ?_
        rintro e w2 ⟨rfl, hkc⟩
        have HKS2 := Lib.hid (HKS1.out.trans' hkc)
        clear hkc z0 z1 z2 z3 y0 y1 y2 y3
        obtain ⟨⟨z0, z1, z2, z3⟩, _⟩ := four_facts8 (blk_keep HBV.out HKS2.out (by simp))
        obtain ⟨⟨y0, y1, y2, y3⟩, _⟩ := four_facts8 (blk_keep HB7.out HKS2.out (by simp))
        go_wp2_with fail
        refine (C3.out _ HKS2.out).mono ?_
        rintro e w3 ⟨rfl, hkc⟩
        have HKS3 := Lib.hid (HKS2.out.trans' hkc)
        clear hkc z0 z1 z2 z3 y0 y1 y2 y3
        obtain ⟨⟨z0, z1, z2, z3⟩, _⟩ := four_facts8 (blk_keep HBV.out HKS3.out (by simp))
        obtain ⟨⟨y0, y1, y2, y3⟩, _⟩ := four_facts8 (blk_keep HB7.out HKS3.out (by simp))
        go_wp2_with fail
        refine (C4.out _ HKS3.out).mono ?_
        rintro e w4 ⟨rfl, hkc⟩
        have HKS4 := Lib.hid (HKS3.out.trans' hkc)
        clear hkc z0 z1 z2 z3 y0 y1 y2 y3
        obtain ⟨⟨z0, z1, z2, z3⟩, _⟩ := four_facts8 (blk_keep HBV.out HKS4.out (by simp))
        obtain ⟨⟨y0, y1, y2, y3⟩, _⟩ := four_facts8 (blk_keep HB7.out HKS4.out (by simp))
        go_wp2_with fail
        refine (C5.out _ HKS4.out).mono ?_
        rintro e w5 ⟨rfl, hkc⟩
        have HKS5 := Lib.hid (HKS4.out.trans' hkc)
        clear hkc z0 z1 z2 z3 y0 y1 y2 y3
        obtain ⟨⟨z0, z1, z2, z3⟩, _⟩ := four_facts8 (blk_keep HBV.out HKS5.out (by simp))
        obtain ⟨⟨y0, y1, y2, y3⟩, _⟩ := four_facts8 (blk_keep HB7.out HKS5.out (by simp))
        go_wp2_with fail
        refine (C6.out _ HKS5.out).mono ?_
        rintro e w6 ⟨rfl, hkc⟩
        have HKS6 := Lib.hid (HKS5.out.trans' hkc)
        clear hkc z0 z1 z2 z3 y0 y1 y2 y3
        obtain ⟨⟨z0, z1, z2, z3⟩, _⟩ := four_facts8 (blk_keep HBV.out HKS6.out (by simp))
        obtain ⟨⟨y0, y1, y2, y3⟩, _⟩ := four_facts8 (blk_keep HB7.out HKS6.out (by simp))
        go_wp2_with fail
        refine (C7.out _ HKS6.out).mono ?_
        rintro e w7 ⟨h7, rfl, hb7, hkc⟩
        have HKS7 := Lib.hid (HKS6.out.trans' hkc)
        have HC8 := Lib.hid (C8.out h7 w7 HKS7.out (hb7 [] w7 (by simp) (Keeps.refl _ _)))
        obtain ⟨c7, n7, k7, A7, la7, ca7, B7, lb7, cb7⟩ := h7
        unfold BH.val at *
        dsimp only at *
        clear hkc hb7 z0 z1 z2 z3 y0 y1 y2 y3
        go_wp2_with fail
        refine HC8.out.mono ?_
        rintro e w8 ⟨rfl, hkc⟩
        have HKS8 := Lib.hid (HKS7.out.trans' hkc)
        clear hkc
        go_wp2_with fail
        refine (C9.out _ HKS8.out).mono ?_
        rintro e w9 ⟨rfl, hkc⟩
        have HKS9 := Lib.hid (HKV.out.trans' (HKS8.out.trans' hkc))
        clear hkc
        go_wp2_with fail
        go_ret
        exact ⟨by first | rfl | (simp; done) | (simp; omega), HKS9.out⟩
       ·have hb199 : ¬ b ≤ 199 := by omega
        rw [show decide (j ≤ 199) = false by simpa using hm] at C2
        simp only [if_true, if_false, Bool.false_eq_true] at C1 C2
        clear hd hm hda hmb
        obtain ⟨⟨z0, z1, z2, z3⟩, _⟩ := four_facts8 (blk_keep HBV.out HKS.out (by simp))
        obtain ⟨⟨y0, y1, y2, y3⟩, _⟩ := four_facts8 (blk_keep HB7.out HKS.out (by simp))
        go_wp2_with fail
        refine (C1.out _ HKS.out).mono ?_
        rintro e w1 ⟨rfl, hkc⟩
        have HKS1 := Lib.hid (HKS.out.trans' hkc)
        clear hkc z0 z1 z2 z3 y0 y1 y2 y3
        obtain ⟨⟨z0, z1, z2, z3⟩, _⟩ := four_facts8 (blk_keep HBV.out HKS1.out (by simp))
        obtain ⟨⟨y0, y1, y2, y3⟩, _⟩ := four_facts8 (blk_keep HB7.out HKS1.out (by simp))
        go_wp2_with fail
        refine (C2.out _ HKS1.out).mono ?_
        rintro e w2 ⟨rfl, hkc⟩
        have HKS2 := Lib.hid (HKS1.out.trans' hkc)
        clear hkc z0 z1 z2 z3 y0 y1 y2 y3
        obtain ⟨⟨z0, z1, z2, z3⟩, _⟩ := four_facts8 (blk_keep HBV.out HKS2.out (by simp))
        obtain ⟨⟨y0, y1, y2, y3⟩, _⟩ := four_facts8 (blk_keep HB7.out HKS2.out (by simp))
        go_wp2_with fail
        refine (C3.out _ HKS2.out).mono ?_
        rintro e w3 ⟨rfl, hkc⟩
        have HKS3 := Lib.hid (HKS2.out.trans' hkc)
        clear hkc z0 z1 z2 z3 y0 y1 y2 y3
        obtain ⟨⟨z0, z1, z2, z3⟩, _⟩ := four_facts8 (blk_keep HBV.out HKS3.out (by simp))
        obtain ⟨⟨y0, y1, y2, y3⟩, _⟩ := four_facts8 (blk_keep HB7.out HKS3.out (by simp))
        go_wp2_with fail
        refine (C4.out _ HKS3.out).mono ?_
        rintro e w4 ⟨rfl, hkc⟩
        have HKS4 := Lib.hid (HKS3.out.trans' hkc)
        clear hkc z0 z1 z2 z3 y0 y1 y2 y3
        obtain ⟨⟨z0, z1, z2, z3⟩, _⟩ := four_facts8 (blk_keep HBV.out HKS4.out (by simp))
        obtain ⟨⟨y0, y1, y2, y3⟩, _⟩ := four_facts8 (blk_keep HB7.out HKS4.out (by simp))
        go_wp2_with fail
        refine (C5.out _ HKS4.out).mono ?_
        rintro e w5 ⟨rfl, hkc⟩
        have HKS5 := Lib.hid (HKS4.out.trans' hkc)
        clear hkc z0 z1 z2 z3 y0 y1 y2 y3
        obtain ⟨⟨z0, z1, z2, z3⟩, _⟩ := four_facts8 (blk_keep HBV.out HKS5.out (by simp))
        obtain ⟨⟨y0, y1, y2, y3⟩, _⟩ := four_facts8 (blk_keep HB7.out HKS5.out (by simp))
        go_wp2_with fail
        refine (C6.out _ HKS5.out).mono ?_
        rintro e w6 ⟨rfl, hkc⟩
        have HKS6 := Lib.hid (HKS5.out.trans' hkc)
        clear hkc z0 z1 z2 z3 y0 y1 y2 y3
        obtain ⟨⟨z0, z1, z2, z3⟩, _⟩ := four_facts8 (blk_keep HBV.out HKS6.out (by simp))
        obtain ⟨⟨y0, y1, y2, y3⟩, _⟩ := four_facts8 (blk_keep HB7.out HKS6.out (by simp))
        go_wp2_with fail
        refine (C7.out _ HKS6.out).mono ?_
        rintro e w7 ⟨h7, rfl, hb7, hkc⟩
        have HKS7 := Lib.hid (HKS6.out.trans' hkc)
        have HC8 := Lib.hid (C8.out h7 w7 HKS7.out (hb7 [] w7 (by simp) (Keeps.refl _ _)))
        obtain ⟨c7, n7, k7, A7, la7, ca7, B7, lb7, cb7⟩ := h7
        unfold BH.val at *
        dsimp only at *
        clear hkc hb7 z0 z1 z2 z3 y0 y1 y2 y3
        go_wp2_with fail
        refine HC8.out.mono ?_
        rintro e w8 ⟨rfl, hkc⟩
        have HKS8 := Lib.hid (HKS7.out.trans' hkc)
        clear hkc
        go_wp2_with fail
        refine (C9.out _ HKS8.out).mono ?_
        rintro e w9 ⟨rfl, hkc⟩
        have HKS9 := Lib.hid (HKV.out.trans' (HKS8.out.trans' hkc))
        clear hkc
        go_wp2_with fail
        go_ret
        exact ⟨by first | rfl | (simp; done) | (simp; omega), HKS9.out⟩
      ·have ha16 : ¬ a ≤ 16 := by omega
       rw [show decide (n + 1 ≤ 16) = false by simpa using hd] at C1
       by_cases hm : j ≤ 199
       ·have hb199 : b ≤ 199 := by omega
        rw [show decide (j ≤ 199) = true by simpa using hm] at C2
        simp only [if_true, if_false, Bool.false_eq_true] at C1 C2
        clear hd hm hda hmb
        obtain ⟨⟨z0, z1, z2, z3⟩, _⟩ := four_facts8 (blk_keep HBV.out HKS.out (by simp))
        obtain ⟨⟨y0, y1, y2, y3⟩, _⟩ := four_facts8 (blk_keep HB7.out HKS.out (by simp))
        go_wp2_with fail
        refine (C1.out _ HKS.out).mono ?_
        rintro e w1 ⟨rfl, hkc⟩
        have HKS1 := Lib.hid (HKS.out.trans' hkc)
        clear hkc z0 z1 z2 z3 y0 y1 y2 y3
        obtain ⟨⟨z0, z1, z2, z3⟩, _⟩ := four_facts8 (blk_keep HBV.out HKS1.out (by simp))
        obtain ⟨⟨y0, y1, y2, y3⟩, _⟩ := four_facts8 (blk_keep HB7.out HKS1.out (by simp))
        go_wp2_with fail
        refine (C2.out _ HKS1.out).mono ?_
        rintro e w2 ⟨rfl, hkc⟩
        have HKS2 := Lib.hid (HKS1.out.trans' hkc)
        clear hkc z0 z1 z2 z3 y0 y1 y2 y3
        obtain ⟨⟨z0, z1, z2, z3⟩, _⟩ := four_facts8 (blk_keep HBV.out HKS2.out (by simp))
        obtain ⟨⟨y0, y1, y2, y3⟩, _⟩ := four_facts8 (blk_keep HB7.out HKS2.out (by simp))
        go_wp2_with fail
        refine (C3.out _ HKS2.out).mono ?_
        rintro e w3 ⟨rfl, hkc⟩
        have HKS3 := Lib.hid (HKS2.out.trans' hkc)
        clear hkc z0 z1 z2 z3 y0 y1 y2 y3
        obtain ⟨⟨z0, z1, z2, z3⟩, _⟩ := four_facts8 (blk_keep HBV.out HKS3.out (by simp))
        obtain ⟨⟨y0, y1, y2, y3⟩, _⟩ := four_facts8 (blk_keep HB7.out HKS3.out (by simp))
        go_wp2_with fail
        refine (C4.out _ HKS3.out).mono ?_
        rintro e w4 ⟨rfl, hkc⟩
        have HKS4 := Lib.hid (HKS3.out.trans' hkc)
        clear hkc z0 z1 z2 z3 y0 y1 y2 y3
        obtain ⟨⟨z0, z1, z2, z3⟩, _⟩ := four_facts8 (blk_keep HBV.out HKS4.out (by simp))
        obtain ⟨⟨y0, y1, y2, y3⟩, _⟩ := four_facts8 (blk_keep HB7.out HKS4.out (by simp))
        go_wp2_with fail
        refine (C5.out _ HKS4.out).mono ?_
        rintro e w5 ⟨rfl, hkc⟩
        have HKS5 := Lib.hid (HKS4.out.trans' hkc)
        clear hkc z0 z1 z2 z3 y0 y1 y2 y3
        obtain ⟨⟨z0, z1, z2, z3⟩, _⟩ := four_facts8 (blk_keep HBV.out HKS5.out (by simp))
        obtain ⟨⟨y0, y1, y2, y3⟩, _⟩ := four_facts8 (blk_keep HB7.out HKS5.out (by simp))
        go_wp2_with fail
        refine (C6.out _ HKS5.out).mono ?_
        rintro e w6 ⟨rfl, hkc⟩
        have HKS6 := Lib.hid (HKS5.out.trans' hkc)
        clear hkc z0 z1 z2 z3 y0 y1 y2 y3
        obtain ⟨⟨z0, z1, z2, z3⟩, _⟩ := four_facts8 (blk_keep HBV.out HKS6.out (by simp))
        obtain ⟨⟨y0, y1, y2, y3⟩, _⟩ := four_facts8 (blk_keep HB7.out HKS6.out (by simp))
        go_wp2_with fail
        refine (C7.out _ HKS6.out).mono ?_
        rintro e w7 ⟨h7, rfl, hb7, hkc⟩
        have HKS7 := Lib.hid (HKS6.out.trans' hkc)
        have HC8 := Lib.hid (C8.out h7 w7 HKS7.out (hb7 [] w7 (by simp) (Keeps.refl _ _)))
        obtain ⟨c7, n7, k7, A7, la7, ca7, B7, lb7, cb7⟩ := h7
        unfold BH.val at *
        dsimp only at *
        clear hkc hb7 z0 z1 z2 z3 y0 y1 y2 y3
        go_wp2_with fail
        refine HC8.out.mono ?_
        rintro e w8 ⟨rfl, hkc⟩
        have HKS8 := Lib.hid (HKS7.out.trans' hkc)
        clear hkc
        go_wp2_with fail
        refine (C9.out _ HKS8.out).mono ?_
        rintro e w9 ⟨rfl, hkc⟩
        have HKS9 := Lib.hid (HKV.out.trans' (HKS8.out.trans' hkc))
        clear hkc
        go_wp2_with fail
        go_ret
        exact ⟨by first | rfl | (simp; done) | (simp; omega), HKS9.out⟩
       ·have hb199 : ¬ b ≤ 199 := by omega
        rw [show decide (j ≤ 199) = false by simpa using hm] at C2
        simp only [if_true, if_false, Bool.false_eq_true] at C1 C2
        clear hd hm hda hmb
        obtain ⟨⟨z0, z1, z2, z3⟩, _⟩ := four_facts8 (blk_keep HBV.out HKS.out (by simp))
        obtain ⟨⟨y0, y1, y2, y3⟩, _⟩ := four_facts8 (blk_keep HB7.out HKS.out (by simp))
        go_wp2_with fail
        refine (C1.out _ HKS.out).mono ?_
        rintro e w1 ⟨rfl, hkc⟩
        have HKS1 := Lib.hid (HKS.out.trans' hkc)
        clear hkc z0 z1 z2 z3 y0 y1 y2 y3
        obtain ⟨⟨z0, z1, z2, z3⟩, _⟩ := four_facts8 (blk_keep HBV.out HKS1.out (by simp))
        obtain ⟨⟨y0, y1, y2, y3⟩, _⟩ := four_facts8 (blk_keep HB7.out HKS1.out (by simp))
        go_wp2_with fail
        refine (C2.out _ HKS1.out).mono ?_
        rintro e w2 ⟨rfl, hkc⟩
        have HKS2 := Lib.hid (HKS1.out.trans' hkc)
        clear hkc z0 z1 z2 z3 y0 y1 y2 y3
        obtain ⟨⟨z0, z1, z2, z3⟩, _⟩ := four_facts8 (blk_keep HBV.out HKS2.out (by simp))
        obtain ⟨⟨y0, y1, y2, y3⟩, _⟩ := four_facts8 (blk_keep HB7.out HKS2.out (by simp))
        go_wp2_with fail
        refine (C3.out _ HKS2.out).mono ?_
        rintro e w3 ⟨rfl, hkc⟩
        have HKS3 := Lib.hid (HKS2.out.trans' hkc)
        clear hkc z0 z1 z2 z3 y0 y1 y2 y3
        obtain ⟨⟨z0, z1, z2, z3⟩, _⟩ := four_facts8 (blk_keep HBV.out HKS3.out (by simp))
        obtain ⟨⟨y0, y1, y2, y3⟩, _⟩ := four_facts8 (blk_keep HB7.out HKS3.out (by simp))
        go_wp2_with fail
        refine (C4.out _ HKS3.out).mono ?_
        rintro e w4 ⟨rfl, hkc⟩
        have HKS4 := Lib.hid (HKS3.out.trans' hkc)
        clear hkc z0 z1 z2 z3 y0 y1 y2 y3
        obtain ⟨⟨z0, z1, z2, z3⟩, _⟩ := four_facts8 (blk_keep HBV.out HKS4.out (by simp))
        obtain ⟨⟨y0, y1, y2, y3⟩, _⟩ := four_facts8 (blk_keep HB7.out HKS4.out (by simp))
        go_wp2_with fail
        refine (C5.out _ HKS4.out).mono ?_
        rintro e w5 ⟨rfl, hkc⟩
        have HKS5 := Lib.hid (HKS4.out.trans' hkc)
        clear hkc z0 z1 z2 z3 y0 y1 y2 y3
        obtain ⟨⟨z0, z1, z2, z3⟩, _⟩ := four_facts8 (blk_keep HBV.out HKS5.out (by simp))
        obtain ⟨⟨y0, y1, y2, y3⟩, _⟩ := four_facts8 (blk_keep HB7.out HKS5.out (by simp))
        go_wp2_with fail
        refine (C6.out _ HKS5.out).mono ?_
        rintro e w6 ⟨rfl, hkc⟩
        have HKS6 := Lib.hid (HKS5.out.trans' hkc)
        clear hkc z0 z1 z2 z3 y0 y1 y2 y3
        obtain ⟨⟨z0, z1, z2, z3⟩, _⟩ := four_facts8 (blk_keep HBV.out HKS6.out (by simp))
        obtain ⟨⟨y0, y1, y2, y3⟩, _⟩ := four_facts8 (blk_keep HB7.out HKS6.out (by simp))
        go_wp2_with fail
        refine (C7.out _ HKS6.out).mono ?_
        rintro e w7 ⟨h7, rfl, hb7, hkc⟩
        have HKS7 := Lib.hid (HKS6.out.trans' hkc)
        have HC8 := Lib.hid (C8.out h7 w7 HKS7.out (hb7 [] w7 (by simp) (Keeps.refl _ _)))
        obtain ⟨c7, n7, k7, A7, la7, ca7, B7, lb7, cb7⟩ := h7
        unfold BH.val at *
        dsimp only at *
        clear hkc hb7 z0 z1 z2 z3 y0 y1 y2 y3
        go_wp2_with fail
        refine HC8.out.mono ?_
        rintro e w8 ⟨rfl, hkc⟩
        have HKS8 := Lib.hid (HKS7.out.trans' hkc)
        clear hkc
        go_wp2_with fail
        refine (C9.out _ HKS8.out).mono ?_
        rintro e w9 ⟨rfl, hkc⟩
        have HKS9 := Lib.hid (HKV.out.trans' (HKS8.out.trans' hkc))
        clear hkc
        go_wp2_with fail
        go_ret
        exact ⟨by first | rfl | (simp; done) | (simp; omega), HKS9.out⟩
end Go.Proofs.YtbfebljahjmjfaaGreatDoor
