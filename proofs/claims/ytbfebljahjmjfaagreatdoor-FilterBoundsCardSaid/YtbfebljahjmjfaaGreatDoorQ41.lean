import Derived.Test.YtbfebljahjmjfaaGreatDoorQ40
import Derived.BigQuiet
/- filter: readValue; walked. -/
namespace Go.Proofs.YtbfebljahjmjfaaGreatDoor
open Go.RowKit Go.Shelf
set_option linter.unusedVariables false
set_option linter.unusedSimpArgs false
set_option maxRecDepth 100000

/-- How readValue ends. -/
def RvtQ (t : BV) (w : World) (e : Ending) (w' : World) : Prop :=
 ((∃ x n h, rvF 1 0 t = some (x, n) ∧ e = .returned (FH.val h) ∧ ∀ (E : List Nat) X, (∀ x ∈ E, x < w.heap.size) → Keeps E w' X → FilAt X x h) ∨ rvF 1 0 t = none ∧ e = gaveUp8 180) ∧ Keeps [] w w'
set_option maxHeartbeats 8000000 in
theorem readvalue_is (t : BV) (h : BH) (w : World) (hN : NumsAt w) (ht : BerAt w t h) (hm : mildB t = true) :
  Calls Tryz.prog 89 #[h.val] w (RvtQ t w) := by
 have hmf : ∀ (fn : Fn) (first cap : Array Value) (w : World), (Instr.makeFunc fn first cap).run Tryz.prog w = .ok (.func fn first cap) w := fun _ _ _ _ => rfl
 have HGA := Lib.hid (gate8_is 180)
 have HT := Lib.hid ht
 have HN := Lib.hid hN
 have HMI := Lib.hid hm
 obtain ⟨c', n', k', A', la', ca', B', lb', cb'⟩ := h
 unfold BH.val
 dsimp only
 clear ht hN hm
 have k1 : Keeps [] w (w.alloc (.cells #[.int .u8 (c' : Int), .int .u8 (n' : Int), .bool k', .slice A' la' ca', .slice B' lb' cb'] 40)) := (Keeps.refl [] w).alloc _
 have b1 := heap_new8 w (.cells #[.int .u8 (c' : Int), .int .u8 (n' : Int), .bool k', .slice A' la' ca', .slice B' lb' cb'] 40)
 have k2 : Keeps [] (w.alloc (.cells #[.int .u8 (c' : Int), .int .u8 (n' : Int), .bool k', .slice A' la' ca', .slice B' lb' cb'] 40)) ((w.alloc (.cells #[.int .u8 (c' : Int), .int .u8 (n' : Int), .bool k', .slice A' la' ca', .slice B' lb' cb'] 40)).alloc (.cells #[.int .i64 0, .slice none 0 0, .string ⟨#[]⟩, .string ⟨#[]⟩] 26)) := (Keeps.refl [] _).alloc _
 have b2 := heap_new8 (w.alloc (.cells #[.int .u8 (c' : Int), .int .u8 (n' : Int), .bool k', .slice A' la' ca', .slice B' lb' cb'] 40)) (.cells #[.int .i64 0, .slice none 0 0, .string ⟨#[]⟩, .string ⟨#[]⟩] 26)
 have HBF := Lib.hid (blk_keep b1 k2 (by simp))
 have HBR := Lib.hid b2
 have HKB := Lib.hid (k1.trans' k2)
 have HZ : Hid (((w.alloc (.cells #[.int .u8 (c' : Int), .int .u8 (n' : Int), .bool k', .slice A' la' ca', .slice B' lb' cb'] 40)).alloc (.cells #[.int .i64 0, .slice none 0 0, .string ⟨#[]⟩, .string ⟨#[]⟩] 26)).heap.size = w.heap.size + 2) := by show _ = _; simp
 simp only [World.size_alloc] at HBR
 clear k1 k2 b1 b2
 go_enter Tryz.func89, Tryz.ntmps89
 go_wp2_with fail
 generalize (w.alloc (.cells #[.int .u8 (c' : Int), .int .u8 (n' : Int), .bool k', .slice A' la' ca', .slice B' lb' cb'] 40)).alloc (.cells #[.int .i64 0, .slice none 0 0, .string ⟨#[]⟩, .string ⟨#[]⟩] 26) = W1 at HBF HBR HKB HZ ⊢
 refine (HGA.out W1).mono ?_
 rintro e w1 ⟨rfl, hp1, hk1⟩
 have HP1 := Lib.hid hp1
 have HK1 := Lib.hid hk1
 clear hp1 hk1 HGA
 have k4 : Keeps [] w1 (w1.alloc (.cells #[.func (.func 134) #[] #[.pointer (some ⟨W1.heap.size + 1, 0, none⟩), .pointer (some ⟨W1.heap.size, 0, none⟩)]] 114)) := (Keeps.refl [] w1).alloc _
 have b4 := heap_new8 w1 (.cells #[.func (.func 134) #[] #[.pointer (some ⟨W1.heap.size + 1, 0, none⟩), .pointer (some ⟨W1.heap.size, 0, none⟩)]] 114)
 have k5 : Keeps [] (w1.alloc (.cells #[.func (.func 134) #[] #[.pointer (some ⟨W1.heap.size + 1, 0, none⟩), .pointer (some ⟨W1.heap.size, 0, none⟩)]] 114)) ((w1.alloc (.cells #[.func (.func 134) #[] #[.pointer (some ⟨W1.heap.size + 1, 0, none⟩), .pointer (some ⟨W1.heap.size, 0, none⟩)]] 114)).alloc (.cells #[.func (.func 141) #[] #[.pointer (some ⟨w1.heap.size, 0, none⟩), .pointer (some ⟨w1.heap.size + 1, 0, none⟩)]] 173)) := (Keeps.refl [] _).alloc _
 have b5 := heap_new8 (w1.alloc (.cells #[.func (.func 134) #[] #[.pointer (some ⟨W1.heap.size + 1, 0, none⟩), .pointer (some ⟨W1.heap.size, 0, none⟩)]] 114)) (.cells #[.func (.func 141) #[] #[.pointer (some ⟨w1.heap.size, 0, none⟩), .pointer (some ⟨w1.heap.size + 1, 0, none⟩)]] 173)
 have HBP := Lib.hid (blk_keep b4 k5 (by simp))
 have HBN := Lib.hid b5
 have HK5 := Lib.hid (k4.trans' k5)
 simp only [World.size_alloc] at HBN
 clear k4 k5 b4 b5
 have HBF5 := Lib.hid (blk_keep (blk_keep HBF.out HK1.out (by simp)) HK5.out (by simp))
 obtain ⟨⟨z0, z1, z2, z3, z4⟩, _⟩ := five_facts HBF5.out
 have y0 := cell_of_blk HBN.out 0
 go_wp2_with fail
 generalize (w1.alloc (.cells #[.func (.func 134) #[] #[.pointer (some ⟨W1.heap.size + 1, 0, none⟩), .pointer (some ⟨W1.heap.size, 0, none⟩)]] 114)).alloc (.cells #[.func (.func 141) #[] #[.pointer (some ⟨w1.heap.size, 0, none⟩), .pointer (some ⟨w1.heap.size + 1, 0, none⟩)]] 173) = W5 at HBP HBN HK5 HBF5 z0 z1 z2 z3 z4 y0 ⊢
 have hzw := HZ.out
 have hz1 := HK1.out.size
 have HKA := Lib.hid (HKB.out.trans' (HK1.out.trans' HK5.out))
 have HREC := Lib.hid (rvc_is w1.heap.size (w1.heap.size + 1) (W1.heap.size + 1) W1.heap.size w (by omega) HN.out t 1 0 ⟨c', n', k', A', la', ca', B', lb', cb'⟩ W5 (by decide) (by decide) HT.out HKA.out ⟨cell_of_blk HBP.out 0, cell_of_blk HBN.out 0, by have := lt_of_heap HP1.out.many; omega, by have := lt_of_heap HP1.out.many; omega⟩ (HP1.out.keep HK5.out (by simp) (by simp)) HMI.out)
 unfold BH.val at HREC
 dsimp only at HREC
 refine HREC.out.mono ?_
 rintro e w6 ⟨⟨x, n, h', hn, rfl, _, hr6⟩ | ⟨hn, rfl⟩, hk6⟩
 ·have HQ := Lib.hid hn
  have HR6 := Lib.hid hr6
  have HK6 := Lib.hid hk6
  have HBR6 := Lib.hid (blk_keep (blk_keep (blk_keep HBR.out HK1.out (by simp)) HK5.out (by simp)) hk6 (by simp; omega))
  obtain ⟨⟨r0, r1, r2, r3⟩, s0, s1, s2, s3⟩ := four_facts8 HBR6.out
  obtain ⟨kf, Bf, lf, cf, sf, vf⟩ := h'
  unfold FH.val tv
  dsimp only
  obtain ⟨R, hR⟩ : ∃ R, w.heap.size + 1 = R := ⟨_, rfl⟩
  have HRR := Lib.hid hR
  rw [hR] at HBR6 r0 r1 r2 r3 s0 s1 s2 s3 ⊢
  clear hn hr6 hk6 hR z0 z1 z2 z3 z4 y0
  go_wp2_with fail
  have HR6' := heap_setCell_same _ R 0 _ _ (.int .i64 kf) HBR6.out
  have HR7 := heap_setCell_same _ R 1 _ _ (.slice Bf lf cf) HR6'
  have HR8 := heap_setCell_same _ R 2 _ _ (.string ⟨sf.toArray⟩) HR7
  have HR9 := heap_setCell_same _ R 3 _ _ (.string ⟨vf.toArray⟩) HR8
  refine bodyPost_ret (results_cell_row rfl _ _ R _ #[.int .i64 kf, .slice Bf lf cf, .string ⟨sf.toArray⟩, .string ⟨vf.toArray⟩] (0, 0) _ rfl HR9 Tryz.underlying26 rfl (by kernel_rfl)) rfl ?_
  have k9 : Keeps [R] w6 ((((w6.setCell ⟨R, 0, none⟩ (.int .i64 kf)).setCell ⟨R, 1, none⟩ (.slice Bf lf cf)).setCell ⟨R, 2, none⟩ (.string ⟨sf.toArray⟩)).setCell ⟨R, 3, none⟩ (.string ⟨vf.toArray⟩)) := ((((Keeps.refl [R] w6).setCell (.inl (by simp)) _).setCell (.inl (by simp)) _).setCell (.inl (by simp)) _).setCell (.inl (by simp)) _
  have hRe := HRR.out
  have hz5 := HK5.out.size
  refine ⟨.inl ⟨x, n, ⟨kf, Bf, lf, cf, sf, vf⟩, HQ.out, rfl, fun E X hE hk => HR6.out (R :: E) X (fun y hy => ?_) ((k9.mono (cs := R :: E) (by simp)).trans hk (fun x hx => .inl (List.mem_cons_of_mem _ hx)))⟩, (HKA.out.trans HK6.out (fun x hx => .inr (by rw [List.mem_singleton.1 hx]; omega))).trans k9 (fun x hx => .inr (by rw [List.mem_singleton.1 hx]; omega))⟩
  rcases List.mem_cons.1 hy with hy | hy
  ·omega
  ·have := hE y hy
   omega
 ·have HQ := Lib.hid hn
  have HK6 := Lib.hid (HKA.out.trans hk6 (fun x hx => .inr (by rw [List.mem_singleton.1 hx]; omega)))
  clear hn hk6 z0 z1 z2 z3 z4 y0
  go_wp2_with fail
  exact ⟨rfl, .inr ⟨HQ.out, rfl⟩, HK6.out⟩
end Go.Proofs.YtbfebljahjmjfaaGreatDoor
