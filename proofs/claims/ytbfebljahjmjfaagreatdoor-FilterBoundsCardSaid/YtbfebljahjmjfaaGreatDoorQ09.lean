import Derived.Test.YtbfebljahjmjfaaGreatDoorQ08
import Derived.BigQuiet
import Derived.Test.YtbfebljahjmjfaaGreatDoorQ02
/- filter: through and sound; walked. -/
namespace Go.Proofs.YtbfebljahjmjfaaGreatDoor
open Go.RowKit Go.Shelf
set_option linter.unusedVariables false
set_option linter.unusedSimpArgs false
set_option maxRecDepth 100000

/-- How sound ends. -/
def SouQ (no : Int) (t : FV) (w : World) (e : Ending) (w' : World) : Prop :=
 ((∃ h, rightF t = true ∧ e = .returned (FH.val h) ∧ ∀ (E : List Nat) X, (∀ x ∈ E, x < w.heap.size) → Keeps E w' X → FilAt X (lowF t) h) ∨ rightF t = false ∧ e = gaveUp8 no) ∧ Keeps [] w w'
set_option maxHeartbeats 4000000 in
theorem thrtop_is (g2 : Nat) (no : Int) (t : FV) (h : FH) (w : World) (ht : FilAt w t h) (hno : w.cell? ⟨g2, 0, none⟩ = some (.int .i64 no)) :
  Calls Tryz.prog 76 #[h.val, .int .i64 no, .func (.func 77) #[] #[.pointer (some ⟨g2, 0, none⟩)]] w (SouQ no t w) := by
 have hmf : ∀ (fn : Fn) (first cap : Array Value) (w : World), (Instr.makeFunc fn first cap).run Tryz.prog w = .ok (.func fn first cap) w := fun _ _ _ _ => rfl
 have HT := Lib.hid ht
 have HNO := Lib.hid hno
 have HGA := Lib.hid (gate8_is no)
 obtain ⟨k, B, lb, cb, s, v⟩ := h
 unfold FH.val tv at *
 dsimp only at *
 clear ht hno
 go_enter Tryz.func76, Tryz.ntmps76
 go_wp2_with fail
 have k1 : Keeps [] w (w.alloc (.cells #[.int .i64 k, .slice B lb cb, .string ⟨s.toArray⟩, .string ⟨v.toArray⟩] 26)) := (Keeps.refl [] w).alloc _
 have b1 := heap_new8 w (.cells #[.int .i64 k, .slice B lb cb, .string ⟨s.toArray⟩, .string ⟨v.toArray⟩] 26)
 have k2 : Keeps [] (w.alloc (.cells #[.int .i64 k, .slice B lb cb, .string ⟨s.toArray⟩, .string ⟨v.toArray⟩] 26)) ((w.alloc (.cells #[.int .i64 k, .slice B lb cb, .string ⟨s.toArray⟩, .string ⟨v.toArray⟩] 26)).alloc (.cells #[.func (.func 77) #[] #[.pointer (some ⟨g2, 0, none⟩)]] 112)) := (Keeps.refl [] _).alloc _
 have b2 := heap_new8 (w.alloc (.cells #[.int .i64 k, .slice B lb cb, .string ⟨s.toArray⟩, .string ⟨v.toArray⟩] 26)) (.cells #[.func (.func 77) #[] #[.pointer (some ⟨g2, 0, none⟩)]] 112)
 have k3 : Keeps [] ((w.alloc (.cells #[.int .i64 k, .slice B lb cb, .string ⟨s.toArray⟩, .string ⟨v.toArray⟩] 26)).alloc (.cells #[.func (.func 77) #[] #[.pointer (some ⟨g2, 0, none⟩)]] 112)) (((w.alloc (.cells #[.int .i64 k, .slice B lb cb, .string ⟨s.toArray⟩, .string ⟨v.toArray⟩] 26)).alloc (.cells #[.func (.func 77) #[] #[.pointer (some ⟨g2, 0, none⟩)]] 112)).alloc (.cells #[.int .i64 0, .slice none 0 0, .string ⟨#[]⟩, .string ⟨#[]⟩] 26)) := (Keeps.refl [] _).alloc _
 have b3 := heap_new8 ((w.alloc (.cells #[.int .i64 k, .slice B lb cb, .string ⟨s.toArray⟩, .string ⟨v.toArray⟩] 26)).alloc (.cells #[.func (.func 77) #[] #[.pointer (some ⟨g2, 0, none⟩)]] 112)) (.cells #[.int .i64 0, .slice none 0 0, .string ⟨#[]⟩, .string ⟨#[]⟩] 26)
 have HBF := Lib.hid (blk_keep (blk_keep b1 k2 (by simp)) k3 (by simp))
 have HBW := Lib.hid (blk_keep b2 k3 (by simp))
 have HBR := Lib.hid b3
 have HKB := Lib.hid (k1.trans' (k2.trans' k3))
 have HZ : Hid ((((w.alloc (.cells #[.int .i64 k, .slice B lb cb, .string ⟨s.toArray⟩, .string ⟨v.toArray⟩] 26)).alloc (.cells #[.func (.func 77) #[] #[.pointer (some ⟨g2, 0, none⟩)]] 112)).alloc (.cells #[.int .i64 0, .slice none 0 0, .string ⟨#[]⟩, .string ⟨#[]⟩] 26)).heap.size = w.heap.size + 3) := by show _ = _; simp
 simp only [World.size_alloc] at HBW HBR
 clear k1 k2 k3 b1 b2 b3
 generalize ((w.alloc (.cells #[.int .i64 k, .slice B lb cb, .string ⟨s.toArray⟩, .string ⟨v.toArray⟩] 26)).alloc (.cells #[.func (.func 77) #[] #[.pointer (some ⟨g2, 0, none⟩)]] 112)).alloc (.cells #[.int .i64 0, .slice none 0 0, .string ⟨#[]⟩, .string ⟨#[]⟩] 26) = W1 at HBF HBW HBR HKB HZ ⊢
 refine (HGA.out W1).mono ?_
 rintro e w1 ⟨rfl, hp1, hk1⟩
 have HP1 := Lib.hid hp1
 have HK1 := Lib.hid hk1
 clear hp1 hk1 HGA
 have k4 : Keeps [] w1 (w1.alloc (.cells #[.func (.func 134) #[] #[.pointer (some ⟨W1.heap.size + 1, 0, none⟩), .pointer (some ⟨W1.heap.size, 0, none⟩)]] 114)) := (Keeps.refl [] w1).alloc _
 have b4 := heap_new8 w1 (.cells #[.func (.func 134) #[] #[.pointer (some ⟨W1.heap.size + 1, 0, none⟩), .pointer (some ⟨W1.heap.size, 0, none⟩)]] 114)
 have k5 : Keeps [] (w1.alloc (.cells #[.func (.func 134) #[] #[.pointer (some ⟨W1.heap.size + 1, 0, none⟩), .pointer (some ⟨W1.heap.size, 0, none⟩)]] 114)) ((w1.alloc (.cells #[.func (.func 134) #[] #[.pointer (some ⟨W1.heap.size + 1, 0, none⟩), .pointer (some ⟨W1.heap.size, 0, none⟩)]] 114)).alloc (.cells #[.func (.func 132) #[] #[.pointer (some ⟨w1.heap.size, 0, none⟩), .pointer (some ⟨w1.heap.size + 1, 0, none⟩), .pointer (some ⟨w.heap.size + 1, 0, none⟩)]] 169)) := (Keeps.refl [] _).alloc _
 have b5 := heap_new8 (w1.alloc (.cells #[.func (.func 134) #[] #[.pointer (some ⟨W1.heap.size + 1, 0, none⟩), .pointer (some ⟨W1.heap.size, 0, none⟩)]] 114)) (.cells #[.func (.func 132) #[] #[.pointer (some ⟨w1.heap.size, 0, none⟩), .pointer (some ⟨w1.heap.size + 1, 0, none⟩), .pointer (some ⟨w.heap.size + 1, 0, none⟩)]] 169)
 have HBP := Lib.hid (blk_keep b4 k5 (by simp))
 have HBN := Lib.hid b5
 have HK5 := Lib.hid (k4.trans' k5)
 simp only [World.size_alloc] at HBN
 clear k4 k5 b4 b5
 have HBF5 := Lib.hid (blk_keep (blk_keep HBF.out HK1.out (by simp)) HK5.out (by simp))
 obtain ⟨⟨z0, z1, z2, z3⟩, _⟩ := four_facts8 HBF5.out
 have y0 := cell_of_blk HBN.out 0
 go_wp2_with fail
 generalize (w1.alloc (.cells #[.func (.func 134) #[] #[.pointer (some ⟨W1.heap.size + 1, 0, none⟩), .pointer (some ⟨W1.heap.size, 0, none⟩)]] 114)).alloc (.cells #[.func (.func 132) #[] #[.pointer (some ⟨w1.heap.size, 0, none⟩), .pointer (some ⟨w1.heap.size + 1, 0, none⟩), .pointer (some ⟨w.heap.size + 1, 0, none⟩)]] 169) = W5 at HBP HBN HK5 HBF5 z0 z1 z2 z3 y0 ⊢
 have hzw := HZ.out
 have hz1 := HK1.out.size
 have HKA := Lib.hid (HKB.out.trans' (HK1.out.trans' HK5.out))
 have HREC := Lib.hid (thrF_is w1.heap.size (w1.heap.size + 1) (w.heap.size + 1) (W1.heap.size + 1) W1.heap.size g2 no w (by omega) (by have := lt_of_cell HNO.out; dsimp only at this; omega) t 1 0 ⟨k, B, lb, cb, s, v⟩ W5 (by decide) (by decide) HT.out HKA.out ⟨cell_of_blk HBP.out 0, cell_of_blk HBN.out 0, cell_of_blk (blk_keep (blk_keep HBW.out HK1.out (by simp)) HK5.out (by simp)) 0, by have := lt_of_heap HP1.out.many; omega, by have := lt_of_heap HP1.out.many; omega, by omega⟩ ((HKA.out.cell (p := ⟨g2, 0, none⟩) (lt_of_cell HNO.out) (by simp)).trans HNO.out) (HP1.out.keep HK5.out (by simp) (by simp)))
 unfold FH.val tv at HREC
 dsimp only at HREC
 refine HREC.out.mono ?_
 rintro e w6 ⟨⟨n, h', hn, rfl, _, hr6⟩ | ⟨hn, rfl⟩, hk6⟩
 ·have HQ : Hid (rightF t = true) := by show _ = _; unfold rightF; rw [hn]; rfl
  have HR6 := Lib.hid hr6
  have HK6 := Lib.hid hk6
  have HBR6 := Lib.hid (blk_keep (blk_keep (blk_keep HBR.out HK1.out (by simp)) HK5.out (by simp)) hk6 (by simp; omega))
  obtain ⟨⟨r0, r1, r2, r3⟩, s0, s1, s2, s3⟩ := four_facts8 HBR6.out
  obtain ⟨k', B', lb', cb', s', v'⟩ := h'
  unfold FH.val tv
  dsimp only
  obtain ⟨R, hR⟩ : ∃ R, w.heap.size + 1 + 1 = R := ⟨_, rfl⟩
  have HRR := Lib.hid hR
  rw [hR] at HBR6 r0 r1 r2 r3 s0 s1 s2 s3 ⊢
  clear hn hr6 hk6 hR z0 z1 z2 z3 y0
  go_wp2_with fail
  have HR6' := heap_setCell_same _ R 0 _ _ (.int .i64 k') HBR6.out
  have HR7 := heap_setCell_same _ R 1 _ _ (.slice B' lb' cb') HR6'
  have HR8 := heap_setCell_same _ R 2 _ _ (.string ⟨s'.toArray⟩) HR7
  have HR9 := heap_setCell_same _ R 3 _ _ (.string ⟨v'.toArray⟩) HR8
  refine bodyPost_ret (results_cell_row rfl _ _ R _ #[.int .i64 k', .slice B' lb' cb', .string ⟨s'.toArray⟩, .string ⟨v'.toArray⟩] (0, 0) _ rfl HR9 Tryz.underlying26 rfl (by kernel_rfl)) rfl ?_
  have k9 : Keeps [R] w6 ((((w6.setCell ⟨R, 0, none⟩ (.int .i64 k')).setCell ⟨R, 1, none⟩ (.slice B' lb' cb')).setCell ⟨R, 2, none⟩ (.string ⟨s'.toArray⟩)).setCell ⟨R, 3, none⟩ (.string ⟨v'.toArray⟩)) := ((((Keeps.refl [R] w6).setCell (.inl (by simp)) _).setCell (.inl (by simp)) _).setCell (.inl (by simp)) _).setCell (.inl (by simp)) _
  have hRe := HRR.out
  have hz5 := HK5.out.size
  refine ⟨.inl ⟨⟨k', B', lb', cb', s', v'⟩, HQ.out, rfl, fun E X hE hk => HR6.out (R :: E) X (fun x hx => ?_) ((k9.mono (cs := R :: E) (by simp)).trans hk (fun x hx => .inl (List.mem_cons_of_mem _ hx)))⟩, (HKA.out.trans HK6.out (fun x hx => .inr (by rw [List.mem_singleton.1 hx]; omega))).trans k9 (fun x hx => .inr (by rw [List.mem_singleton.1 hx]; omega))⟩
  rcases List.mem_cons.1 hx with hx | hx
  ·omega
  ·have := hE x hx
   omega
 ·have HQ : Hid (rightF t = false) := by show _ = _; unfold rightF; rw [hn]; rfl
  have HK6 := Lib.hid (HKA.out.trans hk6 (fun x hx => .inr (by rw [List.mem_singleton.1 hx]; omega)))
  clear hn hk6 z0 z1 z2 z3 y0
  go_wp2_with fail
  exact ⟨rfl, .inr ⟨HQ.out, rfl⟩, HK6.out⟩
set_option maxHeartbeats 4000000 in
theorem sound_is (no : Int) (t : FV) (h : FH) (w : World) (ht : FilAt w t h) :
  Calls Tryz.prog 30 #[h.val, .int .i64 no] w (SouQ no t w) := by
 have hmf : ∀ (fn : Fn) (first cap : Array Value) (w : World), (Instr.makeFunc fn first cap).run Tryz.prog w = .ok (.func fn first cap) w := fun _ _ _ _ => rfl
 have HT := Lib.hid ht
 obtain ⟨k, B, lb, cb, s, v⟩ := h
 unfold FH.val tv at *
 dsimp only at *
 have k1 : Keeps [] w (w.alloc (.cells #[.int .i64 k, .slice B lb cb, .string ⟨s.toArray⟩, .string ⟨v.toArray⟩] 26)) := (Keeps.refl [] w).alloc _
 have b1 := heap_new8 w (.cells #[.int .i64 k, .slice B lb cb, .string ⟨s.toArray⟩, .string ⟨v.toArray⟩] 26)
 have k2 : Keeps [] (w.alloc (.cells #[.int .i64 k, .slice B lb cb, .string ⟨s.toArray⟩, .string ⟨v.toArray⟩] 26)) ((w.alloc (.cells #[.int .i64 k, .slice B lb cb, .string ⟨s.toArray⟩, .string ⟨v.toArray⟩] 26)).alloc (.cells #[.int .i64 no] 27)) := (Keeps.refl [] _).alloc _
 have b2 := heap_new8 (w.alloc (.cells #[.int .i64 k, .slice B lb cb, .string ⟨s.toArray⟩, .string ⟨v.toArray⟩] 26)) (.cells #[.int .i64 no] 27)
 have k3 : Keeps [] ((w.alloc (.cells #[.int .i64 k, .slice B lb cb, .string ⟨s.toArray⟩, .string ⟨v.toArray⟩] 26)).alloc (.cells #[.int .i64 no] 27)) (((w.alloc (.cells #[.int .i64 k, .slice B lb cb, .string ⟨s.toArray⟩, .string ⟨v.toArray⟩] 26)).alloc (.cells #[.int .i64 no] 27)).alloc (.cells #[.int .i64 0, .slice none 0 0, .string ⟨#[]⟩, .string ⟨#[]⟩] 26)) := (Keeps.refl [] _).alloc _
 have b3 := heap_new8 ((w.alloc (.cells #[.int .i64 k, .slice B lb cb, .string ⟨s.toArray⟩, .string ⟨v.toArray⟩] 26)).alloc (.cells #[.int .i64 no] 27)) (.cells #[.int .i64 0, .slice none 0 0, .string ⟨#[]⟩, .string ⟨#[]⟩] 26)
 have HBF := Lib.hid (blk_keep (blk_keep b1 k2 (by simp)) k3 (by simp))
 have HBW := Lib.hid (blk_keep b2 k3 (by simp))
 have HBR := Lib.hid b3
 have HKB := Lib.hid (k1.trans' (k2.trans' k3))
 have HZ : Hid ((((w.alloc (.cells #[.int .i64 k, .slice B lb cb, .string ⟨s.toArray⟩, .string ⟨v.toArray⟩] 26)).alloc (.cells #[.int .i64 no] 27)).alloc (.cells #[.int .i64 0, .slice none 0 0, .string ⟨#[]⟩, .string ⟨#[]⟩] 26)).heap.size = w.heap.size + 3) := by show _ = _; simp
 simp only [World.size_alloc] at HBW HBR
 clear k1 k2 k3 b1 b2 b3 ht
 obtain ⟨⟨z0, z1, z2, z3⟩, _⟩ := four_facts8 HBF.out
 have y0 := cell_of_blk HBW.out 0
 go_enter Tryz.func30, Tryz.ntmps30
 go_wp2_with fail
 generalize ((w.alloc (.cells #[.int .i64 k, .slice B lb cb, .string ⟨s.toArray⟩, .string ⟨v.toArray⟩] 26)).alloc (.cells #[.int .i64 no] 27)).alloc (.cells #[.int .i64 0, .slice none 0 0, .string ⟨#[]⟩, .string ⟨#[]⟩] 26) = W1 at HBF HBW HBR HKB HZ z0 z1 z2 z3 y0 ⊢
 have hzw := HZ.out
 have HREC := Lib.hid (thrtop_is (w.heap.size + 1) no t ⟨k, B, lb, cb, s, v⟩ W1 (FilAt.grow HKB.out t _ HT.out) y0)
 unfold FH.val tv at HREC
 dsimp only at HREC
 refine HREC.out.mono ?_
 rintro e w6 ⟨⟨h', hn, rfl, hr6⟩ | ⟨hn, rfl⟩, hk6⟩
 ·have HQ := Lib.hid hn
  have HR6 := Lib.hid hr6
  have HK6 := Lib.hid hk6
  have HBR6 := Lib.hid (blk_keep HBR.out hk6 (by simp))
  obtain ⟨⟨r0, r1, r2, r3⟩, s0, s1, s2, s3⟩ := four_facts8 HBR6.out
  obtain ⟨k', B', lb', cb', s', v'⟩ := h'
  unfold FH.val tv
  dsimp only
  obtain ⟨R, hR⟩ : ∃ R, w.heap.size + 1 + 1 = R := ⟨_, rfl⟩
  have HRR := Lib.hid hR
  rw [hR] at HBR6 r0 r1 r2 r3 s0 s1 s2 s3 ⊢
  clear hn hr6 hk6 hR z0 z1 z2 z3 y0
  go_wp2_with fail
  have HR6' := heap_setCell_same _ R 0 _ _ (.int .i64 k') HBR6.out
  have HR7 := heap_setCell_same _ R 1 _ _ (.slice B' lb' cb') HR6'
  have HR8 := heap_setCell_same _ R 2 _ _ (.string ⟨s'.toArray⟩) HR7
  have HR9 := heap_setCell_same _ R 3 _ _ (.string ⟨v'.toArray⟩) HR8
  refine bodyPost_ret (results_cell_row rfl _ _ R _ #[.int .i64 k', .slice B' lb' cb', .string ⟨s'.toArray⟩, .string ⟨v'.toArray⟩] (0, 0) _ rfl HR9 Tryz.underlying26 rfl (by kernel_rfl)) rfl ?_
  have k9 : Keeps [R] w6 ((((w6.setCell ⟨R, 0, none⟩ (.int .i64 k')).setCell ⟨R, 1, none⟩ (.slice B' lb' cb')).setCell ⟨R, 2, none⟩ (.string ⟨s'.toArray⟩)).setCell ⟨R, 3, none⟩ (.string ⟨v'.toArray⟩)) := ((((Keeps.refl [R] w6).setCell (.inl (by simp)) _).setCell (.inl (by simp)) _).setCell (.inl (by simp)) _).setCell (.inl (by simp)) _
  have hRe := HRR.out
  refine ⟨.inl ⟨⟨k', B', lb', cb', s', v'⟩, HQ.out, rfl, fun E X hE hk => HR6.out (R :: E) X (fun x hx => ?_) ((k9.mono (cs := R :: E) (by simp)).trans hk (fun x hx => .inl (List.mem_cons_of_mem _ hx)))⟩, (HKB.out.trans' HK6.out).trans k9 (fun x hx => .inr (by rw [List.mem_singleton.1 hx]; omega))⟩
  rcases List.mem_cons.1 hx with hx | hx
  ·omega
  ·have := hE x hx
   omega
 ·have HQ := Lib.hid hn
  have HK6 := Lib.hid (HKB.out.trans' hk6)
  clear hn hk6 z0 z1 z2 z3 y0
  go_wp2_with fail
  exact ⟨rfl, .inr ⟨HQ.out, rfl⟩, HK6.out⟩
end Go.Proofs.YtbfebljahjmjfaaGreatDoor
/- filter: entry's Get, the program's and the document's (as in W21 and X6). -/
namespace Go.Proofs.YtbfebljahjmjfaaGreatDoor
open Go.RowKit Go.Shelf
set_option linter.unusedVariables false
set_option linter.unusedSimpArgs false
set_option maxRecDepth 100000

theorem StrsIn.src {w : World} {A : Option Addr} {n : Nat} {l : List Txt} (h : StrsIn w A n l) : Src w A n (l.map tv) := by
 refine ⟨fun hA => ?_, fun ad hA j u hu => ?_⟩
 ·rcases Nat.eq_zero_or_pos n with h0 | h0
  ·exact h0
  ·obtain ⟨b, o, e, _⟩ := h.2.2 h0
   rw [hA] at e
   cases e
 ·rw [List.getElem?_map] at hu
  obtain ⟨s, hs, rfl⟩ := Option.map_eq_some_iff.1 hu
  have hp : 0 < n := by have := (List.getElem?_eq_some_iff.1 hs).1; rw [h.1] at this; omega
  obtain ⟨b, o, e, hc⟩ := h.2.2 hp
  rw [hA] at e
  injection e with e
  rw [e, add_at]
  exact hc j s hs
theorem tvs_one (l : List Txt) : ∀ u ∈ l.map tv, u.oneCell' = true := by
 intro u hu
 obtain ⟨s, _, rfl⟩ := List.mem_map.1 hu
 rfl
theorem own_caps {w : World} {base n c size : Nat} {e : TypeId} {A : Option Addr} {xs : List Value} (h : w.ownsRow base e size (.slice A n c) n xs) : n ≤ c ∧ c ≤ 9223372036854775807 := by
 rcases h.2 with ⟨hv, h2⟩ | ⟨g, cap, cur, hA, hg, hh, r1, r2, r3⟩
 ·injection hv with e1 e2 e3
  omega
 ·injection hA with e1 e2 e3
  subst e3
  unfold maxLen at r2
  omega
theorem tvs_cells (w : World) (A : Option Addr) (n : Nat) (l : List Txt) (o : Obj) (h : StrsIn w A n l) : Src (w.alloc o) A n (l.map tv) := (StrsIn.grow ((Keeps.refl [] w).alloc o) h).src
set_option maxHeartbeats 4000000 in
theorem clones_is (A : Option Addr) (n c : Nat) (l : List Txt) (w : World) (h : StrsIn w A n l) (hn : n ≤ 1000000) :
  Calls Tryz.prog 126 #[.slice A n c] w fun e w' => ∃ A' c', e = .returned (.slice A' n c') ∧ w'.ownsRow w.heap.size 9 1 (.slice A' n c') n (l.map tv) ∧ Keeps [] w w' := by
 obtain ⟨iu, hiu, hzu0, hzu1, hzu2⟩ := info_parts str_info7
 have HS := Lib.hid h.src
 have HSR := Lib.hid (fun o => tvs_cells w A n l o h)
 have HLL : Hid (l.length = n) := h.1
 have HL : Hid ((l.map tv).length = n * 1) := by show _ = _; rw [List.length_map, h.1, Nat.mul_one]
 have hq := fun (W : World) (a : Option Addr) (n c : Nat) => Lib.run_eql_slice_nil (P := Tryz.prog) W 68 9 a n c 0 0 Tryz.underlying68
 clear h
 rcases A with _ | ad
 ·have hz : n = 0 := HS.out.1 rfl
  subst hz
  have hd : l = [] := List.length_eq_zero_iff.1 HLL.out
  subst hd
  go_enter Tryz.func126, Tryz.ntmps126
  go_wp2_with fail
  go_ret
  exact ⟨_, _, rfl, World.ownsRow_nil _ _ _ _, Keeps.refl _ _⟩
 ·go_enter Tryz.func126, Tryz.ntmps126
  go_wp2_with (at_builtin; refine wpList_append_opt rfl (.tmp 5) (.tmp 6) 68 rfl w.heap.size 9 iu _ 1 16 Tryz.underlying68 hiu hzu0 hzu1 hzu2 rfl (by decide) (.slice (some ⟨w.heap.size, 0, none⟩) 0 0) 0 [] rfl (World.ownsRow_made w #[] 0 (Nat.le_refl _) (by unfold maxLen; omega) rfl) (some ad) n c (l.map tv) rfl HL.out (HSR.out _) (tvs_one l) (by unfold maxLen; omega) (by omega) (by simp) ?_; intro v1 w1 ho1 hg1 hs1; obtain ⟨A1, c1, hv1⟩ := own_slice ho1; subst hv1; have HG1 := Lib.hid (Keeps.trans ((Keeps.refl [] w).alloc (.cells #[] 9)) (Keeps.of_grown (bs := [w.heap.size]) hg1 (fun x hx => .inl (by simp [Value.ownBlock] at hx; simp [hx]))) (fun y hy => .inr (by rw [List.mem_singleton.1 hy]; exact Nat.le_refl _))); have HO1 : Hid (w1.ownsRow w.heap.size 9 1 (.slice A1 (0 + n) c1) (0 + n) (l.map tv)) := (by have h9 := ho1; rw [List.nil_append] at h9; exact h9); rw [Nat.zero_add] at HO1 ⊢; clear ho1 hg1 hs1)
  go_ret
  exact ⟨_, _, rfl, HO1.out, HG1.out⟩
def cont2 (L : List Att) (k : Txt) : List Txt := ((L.find? fun a => a.1 == k).map fun a => a.2).getD []
theorem find_none7 {l : List Att} {j : Nat} {a : Att} {z : Txt} (h : l[j]? = some a) (hn : a.1 ≠ z) (hp : (l.take j).find? (fun a => a.1 == z) = none) : (l.take (j + 1)).find? (fun a => a.1 == z) = none := by
 rw [List.take_add_one, h, List.find?_append, hp]
 simp [hn]
theorem find_some7 {l : List Att} {j : Nat} {a : Att} {z : Txt} (h : l[j]? = some a) (hn : a.1 = z) (hp : (l.take j).find? (fun a => a.1 == z) = none) : l.find? (fun a => a.1 == z) = some a := by
 have h1 : (l.take (j + 1)).find? (fun a => a.1 == z) = some a := by
  rw [List.take_add_one, h, List.find?_append, hp]
  simp [hn]
 have h2 : l = l.take (j + 1) ++ l.drop (j + 1) := (List.take_append_drop _ _).symm
 rw [h2, List.find?_append, h1]
 rfl
/-- What a call answers that tells Values: in new memory. -/
def ValsQ (vs : List Txt) (w : World) (e : Ending) (w' : World) : Prop :=
 ∃ A c, e = .returned (.slice A vs.length c) ∧ w'.ownsRow w.heap.size 9 1 (.slice A vs.length c) vs.length (vs.map tv) ∧ Keeps [] w w'
set_option maxHeartbeats 4000000 in
theorem get_is (A : Option Addr) (n c : Nat) (l : List At7) (v : Txt) (w : World) (h : EntIn w A n l) (hf : Few7 100000 l) (hv : v.length ≤ 9223372036854775807) :
  Calls Tryz.prog 295 #[.slice A n c, tv v] w (ValsQ (cont2 (ents l) (smallL v)) w) := by
 have HD := Lib.hid h
 have HF := Lib.hid hf
 have hn : n ≤ 100000 := by rw [← h.1]; exact hf.1
 have HEL : Hid ((ents l).length = n) := by show _ = _; rw [ents_len, h.1]
 have HSM := Lib.hid (small_is v w hv)
 obtain ⟨z, hz⟩ : ∃ z, smallL v = z := ⟨_, rfl⟩
 rw [hz] at HSM ⊢
 unfold tv
 clear h hf hz
 go_enter Tryz.func295, Tryz.ntmps295
 go_wp2_with fail
 refine HSM.out.mono ?_
 rintro e w1 ⟨rfl, hk1⟩
 have HK1 := Lib.hid hk1
 clear hk1
 go_wp2_with fail
 go_loopw [11] (fun i wr => ∃ j : Nat, i = .int .i64 (j : Int) ∧ j ≤ n ∧ Hid (((ents l).take j).find? (fun a => a.1 == z) = none) ∧ Hid (Keeps [] w wr)) (fun i _ => n - (intOf i).toNat)
 case atStart => exact ⟨0, rfl, Nat.zero_le _, by simp [Hid], HK1.out⟩
 case round =>
  obtain ⟨j, rfl, hj, HA, HKR⟩ := hrel
  by_cases hlt : j < n
  ·obtain ⟨hl, hp, hc9⟩ := EntIn.grow HKR.out HD.out
   obtain ⟨b, o, hA9, hcc⟩ := hc9 (by omega)
   clear hc9
   subst hA9
   obtain ⟨a, hu⟩ : ∃ a, l[j]? = some a := ⟨_, List.getElem?_eq_getElem (by omega)⟩
   obtain ⟨c0, c1⟩ := hcc j a hu
   have hfit := hp a (List.mem_of_getElem? hu)
   have hfn := HF.out.2 a (List.mem_of_getElem? hu)
   have HUE := Lib.hid (ents_at hu)
   obtain ⟨nm, aA, an, ac, avs⟩ := a
   obtain ⟨hnm, hnc, hac, hV⟩ := hfit
   dsimp only at c0 c1 hnm hV hfn
   unfold tv at c0
   have hji : (j : Int) < (n : Int) := by omega
   have HK4 : Hid (Keeps [] wr (wr.alloc (.cells #[.string ⟨nm.toArray⟩, .slice aA an ac] 70))) := (Keeps.refl [] wr).alloc _
   obtain ⟨⟨d0, d1⟩, _⟩ := blk2 (heap_new8 wr (.cells #[.string ⟨nm.toArray⟩, .slice aA an ac] 70))
   obtain ⟨w4, hw4⟩ : ∃ w4, wr.alloc (.cells #[.string ⟨nm.toArray⟩, .slice aA an ac] 70) = w4 := ⟨_, rfl⟩
   rw [hw4] at HK4 d0 d1
   have HCL := Lib.hid (clones_is aA an ac avs w4 (StrsIn.grow HK4.out hV) (by omega))
   have HVL : Hid (avs.length = an) := hV.1
   have HZ : Hid (wr.heap.size ≤ w4.heap.size) := HK4.out.size
   obtain ⟨r, hr⟩ : ∃ r, (nm == z) = r := ⟨_, rfl⟩
   clear hcc hu hp hl hV hnm hnc hac hfn
   cases r
   ·have HN2 := Lib.hid (find_none7 HUE.out (show nm ≠ z by simpa using hr) HA.out)
    go_wp2_with fail
    go_roundw
    case rel => exact ⟨j + 1, by go_num, by omega, HN2.out, HKR.out.trans' HK4.out⟩
    case measure => simp [intOf]; omega
   ·have heq : nm = z := by simpa using hr
    have HF2 := Lib.hid (find_some7 HUE.out heq HA.out)
    subst heq
    clear hr
    go_wp2_with fail
    refine HCL.out.mono ?_
    rintro e w5 ⟨A5, c5, rfl, ho5, hk5⟩
    have HO5 : Hid (w5.ownsRow w.heap.size 9 1 (.slice A5 an c5) an (avs.map tv)) := own_base7 ho5 (Nat.le_trans HKR.out.size HZ.out)
    have HK5 := Lib.hid (HKR.out.trans' (HK4.out.trans' hk5))
    clear ho5 hk5
    go_wp2_with fail
    go_ret
    have he : cont2 (ents l) nm = avs := by unfold cont2; rw [HF2.out]; rfl
    rw [he]
    unfold ValsQ
    rw [HVL.out]
    exact ⟨A5, c5, rfl, HO5.out, HK5.out⟩
  ·obtain rfl : j = n := by omega
   have h9 := HA.out
   rw [List.take_of_length_le (by rw [HEL.out]; exact Nat.le_refl _)] at h9
   have H9 := Lib.hid h9
   clear h9
   go_wp2_with fail
   go_ret
   have he : cont2 (ents l) z = [] := by unfold cont2; rw [H9.out]; rfl
   rw [he]
   exact ⟨none, 0, rfl, World.ownsRow_nil _ _ _ _, HKR.out⟩
/-- What a call answers that tells texts: in memory that may be its own. -/
def StrQ (xs : List Txt) (w : World) (e : Ending) (w' : World) : Prop := ∃ A c, e = .returned (.slice A xs.length c) ∧ StrsIn w' A xs.length xs ∧ xs.length ≤ c ∧ c ≤ 9223372036854775807 ∧ Keeps [] w w'
theorem StrQ.of {w wr : World} {A : Option Addr} {m c : Nat} {xs : List Txt} (h : StrsIn wr A m xs) (h1 : m ≤ c) (h2 : c ≤ 9223372036854775807) (hk : Keeps [] w wr) : StrQ xs w (.returned (.slice A m c)) wr := by
 obtain rfl := h.1
 exact ⟨A, c, rfl, h, h1, h2, hk⟩
end Go.Proofs.YtbfebljahjmjfaaGreatDoor
