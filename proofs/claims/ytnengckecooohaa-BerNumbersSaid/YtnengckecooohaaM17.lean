/- Texts of one proof, laid together: E43. -/
import Derived.Test.YtnengckecooohaaM16
/- ber: the next value of a reader, walked. -/
namespace Go.Proofs.Ytnengckecooohaa
open Go.RowKit Go.Shelf
set_option linter.unusedVariables false
set_option linter.unusedSimpArgs false
set_option maxRecDepth 100000

set_option maxHeartbeats 16000000 in
theorem next_step (f : Nat) (hf : f ≤ 16) (ih : ∀ f', f' + 1 = f → ∀ xs Bd r p w, NextP f' xs Bd r p w → Calls Try.prog 58 #[.pointer (some ⟨r, 0, none⟩), .pointer (some ⟨p, 0, none⟩)] w (NextQ f' xs Bd r w)) (xs : List UInt8) (Bd r p : Nat) (w : World) (HP : NextP f xs Bd r p w) :
    Calls Try.prog 58 #[.pointer (some ⟨r, 0, none⟩), .pointer (some ⟨p, 0, none⟩)] w (NextQ f xs Bd r w) := by
  have IH := Lib.hid ih
  have HPH := Lib.hid HP
  have hrl := HP.rb.lt
  obtain ⟨W0, hW0⟩ : ∃ W0, w.alloc ber0 = W0 := ⟨_, rfl⟩
  have hk0 : Keeps [] w W0 := by rw [← hW0]; exact (Keeps.refl [] w).alloc _
  have HK0 : Hid (KR r w W0) := KR.of hk0 hrl
  have HR0 : Hid (W0.heap[w.heap.size]? = some ber0) := by rw [← hW0]; exact heap_new8 w _
  have hz0 : W0.heap.size = w.heap.size + 1 := by rw [← hW0]; simp
  have HZ0 := Lib.hid hz0
  have HB0 := Lib.hid (HP.rb.keep hk0 (by simp) (by simp))
  clear ih HP hk0 hz0
  rcases xs with _ | ⟨x, xs⟩
  · have HT := Lib.hid (rb_tag_none r Bd W0 HB0.out)
    go_enter Try.func58, Try.ntmps58
    go_wp2_with fail
    refine HT.out.mono ?_
    rintro e w1 ⟨rfl, hk1⟩
    have HK1 := Lib.hid (HK0.out.trans' (KR.of hk1 (by have := HZ0.out; omega)))
    clear hk1
    go_wp2_with fail
    exact ⟨rfl, .inr ⟨151, nextD_nil f, rfl⟩, HK1.out⟩
  · obtain ⟨cc, hcc⟩ : ∃ cc, x.toNat / 64 = cc := ⟨_, rfl⟩
    obtain ⟨nn, hnn⟩ : ∃ nn, x.toNat % 32 = nn := ⟨_, rfl⟩
    obtain ⟨kk, hkk⟩ : ∃ kk, decide (x.toNat / 32 % 2 = 1) = kk := ⟨_, rfl⟩
    have HT := Lib.hid (rb_tag r Bd x xs W0 HB0.out)
    unfold TagR at HT
    rw [hcc, hnn, hkk] at HT
    have HX := Lib.hid (And.intro hcc (And.intro hnn (And.intro hkk (show cc < 256 ∧ nn < 256 by have := x.toNat_lt; omega))))
    clear hcc hnn hkk
    go_enter Try.func58, Try.ntmps58
    go_wp2_with fail
    refine HT.out.mono ?_
    rintro e w1 ⟨⟨h31, rfl⟩ | ⟨h31, rfl⟩, hk1, hb1⟩
    · have HK1 := Lib.hid (HK0.out.trans' hk1)
      have HE := Lib.hid (nextD_31 f x xs (HX.out.2.1.trans h31))
      clear hk1 hb1 h31
      go_wp2_with fail
      exact ⟨rfl, .inr ⟨151, HE.out, rfl⟩, HK1.out⟩
    · have hz1 := hk1.keeps.size
      have hd1 := (hk1.off 1 (by decide)).trans ((HK0.out.off 1 (by decide)).trans HPH.out.dep)
      have HK1 := Lib.hid (HK0.out.trans' hk1)
      have hr1 := blk_keep HR0.out hk1.keeps (by simp; omega)
      have hfn1 : w1.cell? ⟨p, 0, none⟩ = some (.func (.func 58) #[] #[.pointer (some ⟨p, 0, none⟩)]) := (HK1.out.keeps.cell (p := ⟨p, 0, none⟩) (lt_of_cell HPH.out.fn) (by simp; exact HPH.out.ne)).trans HPH.out.fn
      have H31 : Hid (x.toNat % 32 ≠ 31) := by rw [HX.out.2.1]; exact h31
      obtain ⟨W1, hW1⟩ : ∃ W1, w1.alloc (.cells #[.int .u8 (cc : Int), .int .u8 (nn : Int), .bool kk, .slice none 0 0, .slice none 0 0] 25) = W1 := ⟨_, rfl⟩
      have kk1 : Keeps [] w1 W1 := by rw [← hW1]; exact (Keeps.refl [] w1).alloc _
      have hz2 : W1.heap.size = w1.heap.size + 1 := by rw [← hW1]; simp
      have HRG : Hid (W1.heap[w1.heap.size]? = some (.cells #[.int .u8 (cc : Int), .int .u8 (nn : Int), .bool kk, .slice none 0 0, .slice none 0 0] 25 (0, 0))) := by rw [← hW1]; exact heap_new8 w1 _
      have HRES := Lib.hid (blk_keep hr1 kk1 (by simp))
      have hd2 := (kk1.cell (lt_of_cell hd1) (by simp)).trans hd1
      have HFN := Lib.hid ((kk1.cell (lt_of_cell hfn1) (by simp)).trans hfn1)
      have HB1 := Lib.hid (hb1.keep kk1 (by simp) (by simp))
      have HKW := Lib.hid (HK1.out.trans' (KR.of kk1 hb1.lt))
      have HZ := Lib.hid (show w.heap.size < w1.heap.size ∧ W1.heap.size = w1.heap.size + 1 ∧ r < w.heap.size by have := HZ0.out; omega)
      have HD2 := Lib.hid hd2
      have HW1 := Lib.hid hW1
      clear hW1
      clear hk1 hb1 hd1 hr1 hfn1 kk1 hz1 hz2 h31 hd2
      have hd2 := HD2.out
      rcases f with _ | f
      · have HE : Hid (nextD 0 (x :: xs) = .inl 150) := by simp [Hid, nextD, H31.out]
        have hd2' : (w1.alloc (.cells #[.int .u8 (cc : Int), .int .u8 (nn : Int), .bool kk, .slice none 0 0, .slice none 0 0] 25)).cell? ⟨r, 1, none⟩ = some (.int .i64 17) := by rw [HW1.out]; exact hd2
        clear hd2
        go_wp2_with fail
        rw [HW1.out]
        exact ⟨rfl, .inr ⟨150, HE.out, rfl⟩, HKW.out⟩
      · have hd2' : (w1.alloc (.cells #[.int .u8 (cc : Int), .int .u8 (nn : Int), .bool kk, .slice none 0 0, .slice none 0 0] 25)).cell? ⟨r, 1, none⟩ = some (.int .i64 ((17 - (f + 1) : Nat) : Int)) := by rw [HW1.out]; exact hd2
        have hle : ¬ (16 : Int) < ((17 - (f + 1) : Nat) : Int) := by omega
        have HLN := Lib.hid (rb_len r Bd xs W1 HB1.out)
        generalize hdn : 17 - (f + 1) = dn at *
        clear hd2
        go_wp2_with fail
        rw [HW1.out]
        refine HLN.out.mono ?_
        rintro e w2 ⟨⟨n, rest, hl, rfl, hb2⟩ | ⟨hl, rfl⟩, hk2⟩
        · have hw : IntKind.i64.wrap ((dn : Int) + 1) = (dn : Int) + 1 := IntWalk.i64_in _ (by omega)
          have HK2 := Lib.hid (HKW.out.trans' hk2)
          have hd3 := (hk2.off 1 (by decide)).trans HD2.out
          have HD3 := Lib.hid hd3
          have hz2 := hk2.keeps.size
          have hrl2 : r < w2.heap.size := hb2.lt
          have HRG2 := Lib.hid (blk_keep HRG.out hk2.keeps (by have := HZ.out; simp; omega))
          have HRES2 := Lib.hid (blk_keep HRES.out hk2.keeps (by have := HZ.out; simp; omega))
          have HFN2 := Lib.hid ((hk2.keeps.cell (p := ⟨p, 0, none⟩) (lt_of_cell HFN.out) (by simp; exact HPH.out.ne)).trans HFN.out)
          have HBR := Lib.hid hb2
          have HL := Lib.hid hl
          have hnr : r ≠ w2.heap.size := by omega
          have hd6 : ∀ o, (w2.alloc o).drew.cell? ⟨r, 1, none⟩ = some (.int .i64 (dn : Int)) := fun o => (((Keeps.refl [] w2).alloc o).drew.cell (lt_of_cell hd3) (by simp)).trans hd3
          have HCD := Lib.hid (fun X (hk : KR r w2 X) => (hk.off 1 (by decide)).trans hd3)
          clear hk2 hb2 hl HLN HB1 hd2'
          by_cases hn : rest.length < n
          · have HTK := Lib.hid (fun X (hk : Keeps [] w2 X) => rb_take_no r Bd n rest X (HBR.out.keep hk (by simp) (by simp)) hn)
            have HE : Hid (nextD (f + 1) (x :: xs) = .inl 151) := by
              show _ = _
              unfold nextD
              simp [H31.out, HL.out, hn]
            go_wp2_with fail
            refine wp_region_any (by kernel_rfl) ?_
            change wpAny _ _ _ _ _ _ _ (World.drew _)
            refine wpAny_take (i := 0) (v := ?_) rfl (by kernel_rfl) (by kernel_rfl) (by kernel_rfl) (fun _ _ _ h => h) (Or.inl ⟨by rfl, ?_⟩) ?_
            rotate_left 1
            · (intro w; go_simp; try with_reducible rfl)
            refine wpAny_take (i := 1) (v := ?_) rfl (by kernel_rfl) (by kernel_rfl) (by kernel_rfl) (fun _ _ _ h => h) (Or.inl ⟨by rfl, ?_⟩) ?_
            rotate_left 1
            · (intro w; go_simp; try with_reducible rfl)
            refine wpAny_take (i := 2) (v := ?_) rfl (by kernel_rfl) (by kernel_rfl) (by kernel_rfl) (fun _ _ _ h => h) (Or.inl ⟨by rfl, ?_⟩) ?_
            rotate_left 1
            · (intro w; go_simp; try with_reducible rfl)
            refine wpAny_take (i := 3) (v := ?_) rfl (by kernel_rfl) (by kernel_rfl) (by kernel_rfl) (fun _ _ _ h => h) (Or.inl ⟨by rfl, ?_⟩) ?_
            rotate_left 1
            · (intro w; go_simp; try with_reducible rfl)
            refine wpAny_take (i := 5) (v := ?_) rfl (by kernel_rfl) (by kernel_rfl) (by kernel_rfl) (fun _ _ _ h => h) (Or.inl ⟨by rfl, ?_⟩) ?_
            rotate_left 1
            · (intro w; go_simp; try with_reducible rfl)
            refine wpAny_take (i := 6) (v := ?_) rfl (by kernel_rfl) (by kernel_rfl) (by kernel_rfl) (fun _ _ _ h => h) (Or.inl ⟨by rfl, ?_⟩) ?_
            rotate_left 1
            · (intro w; go_simp; try with_reducible rfl)
            refine wpAny_take (i := 7) (v := ?_) rfl (by kernel_rfl) (by kernel_rfl) (by kernel_rfl) (fun _ _ _ h => h) (Or.inl ⟨by rfl, ?_⟩) ?_
            rotate_left 1
            · (intro w; go_simp; try with_reducible rfl)
            refine wpAny_ready (rs := [4, 8, 11]) (by kernel_rfl) (by simp) ?_
            refine AllReady.cons rfl (fun K hK => ?_) ?_
            · (go_simp; go_wp2_with (go_at_call 61; refine (HTK.out _ (by repeat (first | exact Keeps.refl [] _ | refine Keeps.alloc ?_ _ | refine Keeps.drew ?_))).mono ?_; rintro e w3 ⟨rfl, rfl⟩); exact ⟨rfl, .inr ⟨151, HE.out, rfl⟩, HK2.out.trans' (KR.of (by repeat (first | exact Keeps.refl [] _ | refine Keeps.alloc ?_ _ | refine Keeps.drew ?_)) hrl2)⟩)
            refine AllReady.cons rfl (fun K hK => ?_) ?_
            · go_simp
              refine hK _ _ ?_
              clear hK K
              refine wpAny_take (i := 9) (v := ?_) rfl (by kernel_rfl) (by kernel_rfl) (by kernel_rfl) (fun _ _ _ h => h) (Or.inl ⟨by rfl, ?_⟩) ?_
              rotate_left 1
              · (intro w; go_simp; try with_reducible rfl)
              refine wpAny_ready (rs := [4, 11]) (by kernel_rfl) (by simp) ?_
              refine AllReady.cons rfl (fun K hK => ?_) ?_
              · (go_simp; go_wp2_with (go_at_call 61; refine (HTK.out _ (by repeat (first | exact Keeps.refl [] _ | refine Keeps.alloc ?_ _ | refine Keeps.drew ?_))).mono ?_; rintro e w3 ⟨rfl, rfl⟩); exact ⟨rfl, .inr ⟨151, HE.out, rfl⟩, HK2.out.trans' (KR.of (by repeat (first | exact Keeps.refl [] _ | refine Keeps.alloc ?_ _ | refine Keeps.drew ?_)) hrl2)⟩)
              refine AllReady.cons rfl (fun K hK => ?_) ?_
              · go_simp
                refine hK _ _ ?_
                clear hK K
                refine wpAny_ready (rs := [4]) (by kernel_rfl) (by simp) ?_
                refine AllReady.cons rfl (fun K hK => ?_) ?_
                · (go_simp; go_wp2_with (go_at_call 61; refine (HTK.out _ (by repeat (first | exact Keeps.refl [] _ | refine Keeps.alloc ?_ _ | refine Keeps.drew ?_))).mono ?_; rintro e w3 ⟨rfl, rfl⟩); exact ⟨rfl, .inr ⟨151, HE.out, rfl⟩, HK2.out.trans' (KR.of (by repeat (first | exact Keeps.refl [] _ | refine Keeps.alloc ?_ _ | refine Keeps.drew ?_)) hrl2)⟩)
                exact AllReady.nil
              exact AllReady.nil
            refine AllReady.cons rfl (fun K hK => ?_) ?_
            · go_simp
              refine hK _ _ ?_
              clear hK K
              refine wpAny_ready (rs := [4, 8]) (by kernel_rfl) (by simp) ?_
              refine AllReady.cons rfl (fun K hK => ?_) ?_
              · (go_simp; go_wp2_with (go_at_call 61; refine (HTK.out _ (by repeat (first | exact Keeps.refl [] _ | refine Keeps.alloc ?_ _ | refine Keeps.drew ?_))).mono ?_; rintro e w3 ⟨rfl, rfl⟩); exact ⟨rfl, .inr ⟨151, HE.out, rfl⟩, HK2.out.trans' (KR.of (by repeat (first | exact Keeps.refl [] _ | refine Keeps.alloc ?_ _ | refine Keeps.drew ?_)) hrl2)⟩)
              refine AllReady.cons rfl (fun K hK => ?_) ?_
              · go_simp
                refine hK _ _ ?_
                clear hK K
                refine wpAny_take (i := 9) (v := ?_) rfl (by kernel_rfl) (by kernel_rfl) (by kernel_rfl) (fun _ _ _ h => h) (Or.inl ⟨by rfl, ?_⟩) ?_
                rotate_left 1
                · (intro w; go_simp; try with_reducible rfl)
                refine wpAny_ready (rs := [4]) (by kernel_rfl) (by simp) ?_
                refine AllReady.cons rfl (fun K hK => ?_) ?_
                · (go_simp; go_wp2_with (go_at_call 61; refine (HTK.out _ (by repeat (first | exact Keeps.refl [] _ | refine Keeps.alloc ?_ _ | refine Keeps.drew ?_))).mono ?_; rintro e w3 ⟨rfl, rfl⟩); exact ⟨rfl, .inr ⟨151, HE.out, rfl⟩, HK2.out.trans' (KR.of (by repeat (first | exact Keeps.refl [] _ | refine Keeps.alloc ?_ _ | refine Keeps.drew ?_)) hrl2)⟩)
                exact AllReady.nil
              exact AllReady.nil
            exact AllReady.nil
          · have HTK := Lib.hid (fun X (hk : Keeps [] w2 X) => rb_take_yes r Bd n rest X (HBR.out.keep hk (by simp) (by simp)) hn)
            go_wp2_with fail
            go_region_with (go_at_call 61; refine (HTK.out _ (by repeat (first | exact Keeps.refl [] _ | refine Keeps.alloc ?_ _ | refine Keeps.drew ?_))).mono ?_; rintro e w3 ⟨A, c, rfl, hbA, hA, hb3, hk3, hz3⟩; have HBA := Lib.hid hbA; have HA := Lib.hid hA; have HB3 := Lib.hid hb3; have HK3 := Lib.hid (KR.trans' (KR.of (by repeat (first | exact Keeps.refl [] _ | refine Keeps.alloc ?_ _ | refine Keeps.drew ?_)) hrl2) hk3); have HZ3 := Lib.hid hz3; have hd4 := HCD.out w3 HK3.out; have hnr3 : r ≠ w3.heap.size := (Nat.ne_of_lt (show r < w3.heap.size from lt_of_cell hd4)); have hd5 : ∀ o, (w3.alloc o).cell? ⟨r, 1, none⟩ = some (.int .i64 (dn : Int)) := fun o => (((Keeps.refl [] w3).alloc o).cell (lt_of_cell hd4) (by simp)).trans hd4; (first | (have hb9 : w3.heap[w2.heap.size]? = some (.cells #[.slice none 0 0, .int .i64 0] 84 (0, 0)) := (blk_keep (show ((w2.alloc (.cells #[.slice none 0 0, .int .i64 0] 84)).drew).heap[w2.heap.size]? = some (.cells #[.slice none 0 0, .int .i64 0] 84 (0, 0)) from heap_new8 w2 _) hk3.keeps (by simp; omega)); have q0 := cell_of_blk hb9 0; have q1 := cell_of_blk hb9 1; have p0 := free_of_blk hb9 0; have p1 := free_of_blk hb9 1; simp only [List.getElem?_toArray, List.getElem?_cons_zero, List.getElem?_cons_succ] at q0 q1; have HB9 := Lib.hid hb9; clear hb9) | skip); clear hbA hA hb3 hk3 hz3)
            all_goals
              clear hd6
              first
                | (have hzz : w3.heap.size = w2.heap.size := (by have h9 := HZ3.out; simp at h9; exact h9)
                   rw [hzz]
                   have hri : (w3.alloc (.cells #[.slice A n c, .int .i64 ((dn : Int) + 1)] 84)).heap[w2.heap.size]? = some (.cells #[.slice A n c, .int .i64 ((dn : Int) + 1)] 84 (0, 0)) := (by rw [← hzz]; exact heap_new8 w3 _)
                   have hki : Keeps [w2.heap.size] w3 (w3.alloc (.cells #[.slice A n c, .int .i64 ((dn : Int) + 1)] 84)) := ((Keeps.refl _ w3).alloc _)
                   generalize w3.alloc (.cells #[.slice A n c, .int .i64 ((dn : Int) + 1)] 84) = W4 at *
                   clear hd5 hzz)
                | (have hri := pair_set (v0 := .slice A n c) (v1 := .int .i64 ((dn : Int) + 1)) HB9.out
                   have hki : Keeps [w2.heap.size] w3 ((w3.setCell ⟨w2.heap.size, 0, none⟩ (.slice A n c)).setCell ⟨w2.heap.size, 1, none⟩ (.int .i64 ((dn : Int) + 1))) := (((Keeps.refl [w2.heap.size] w3).setCell (.inl (by simp)) _).setCell (.inl (by simp)) _)
                   generalize (w3.setCell ⟨w2.heap.size, 0, none⟩ (.slice A n c)).setCell ⟨w2.heap.size, 1, none⟩ (.int .i64 ((dn : Int) + 1)) = W4 at *
                   clear hd5 q0 q1 p0 p1 HB9)
              have hzA := HZ.out
              have hBd := HPH.out.bd
              have hk24 : KR r w2 W4 := ⟨HK3.out.keeps.trans hki (fun x hx => .inr (by rw [List.mem_singleton.1 hx]; exact Nat.le_refl _)), fun q hq => (hki.cell (p := ⟨r, q, none⟩) (show r < w3.heap.size from lt_of_cell hd4) (by simp; omega)).trans (HK3.out.off q hq)⟩
              have hz24 := hk24.keeps.size
              have HK24 := Lib.hid (HK2.out.trans' hk24)
              have HB4 := Lib.hid (HB3.out.keep hki (by simp; omega) (fun y hy => .inl (by rw [List.mem_singleton.1 hy]; omega)))
              have HBA4 := Lib.hid (HBA.out.keep hki (fun b hb hm => by
                cases A with
                | none => simp [Value.ownBlock] at hb
                | some a =>
                  have h9 := (HA.out a rfl).1
                  simp [Value.ownBlock] at hb
                  simp at hm
                  omega))
              have hrg4 := blk_keep HRG2.out hk24.keeps (by simp; omega)
              have hres4 := blk_keep HRES2.out hk24.keeps (by simp; omega)
              have HFN4 := Lib.hid ((hk24.keeps.cell (p := ⟨p, 0, none⟩) (lt_of_cell HFN2.out) (by simp; exact HPH.out.ne)).trans HFN2.out)
              have HRG4 := Lib.hid hrg4
              have HRES4 := Lib.hid hres4
              have HRI := Lib.hid hri
              obtain ⟨⟨g0, g1, g2, g3, g4⟩, ⟨f0, f1, f2, f3, f4⟩⟩ := five_facts hrg4
              have i0 := cell_of_blk hri 0
              have i1 := cell_of_blk hri 1
              simp only [List.getElem?_toArray, List.getElem?_cons_zero, List.getElem?_cons_succ] at i0 i1
              have hilt : w2.heap.size < W4.heap.size := lt_of_heap hri
              have HIL := Lib.hid (And.intro hzA (And.intro hBd (And.intro hilt (And.intro hz2 hz24))))
              clear hk24 hrg4 hres4 hri hki HK3 HB3 HBA hd4 hnr3 HTK hzA hBd hilt hz24
              have HIN : Hid (RB W4 w2.heap.size (rest.take n) Bd) := by
                have h9 := HIL.out
                refine ⟨A, c, ⟨?_, free_of_blk HRI.out 0, rfl, ?_, fun a ha => ?_⟩, fun a ha => (HA.out a ha).1⟩
                · rw [List.length_take, Nat.min_eq_left (by omega)]; exact i0
                · rw [List.length_take, Nat.min_eq_left (by omega)]; exact HBA4.out
                · have := (HA.out a ha).1; omega
              cases kk
              · have HCL := Lib.hid (clone_at A n c (rest.take n) W4 (by rw [List.length_take]; omega) (by have := HPH.out.len; have h8 := lenR_len HL.out; simp at this; omega) HBA4.out)
                go_wp2_with fail
                refine HCL.out.mono ?_
                rintro e w5 ⟨D, dd, rfl, hbD, hD, hk5⟩
                have hr5 := blk_keep HRG4.out hk5 (by simp)
                have hs5 := blk_keep HRES4.out hk5 (by simp)
                obtain ⟨⟨g0, g1, g2, g3, g4⟩, ⟨f0, f1, f2, f3, f4⟩⟩ := five_facts hr5
                obtain ⟨⟨s0, s1, s2, s3, s4⟩, ⟨t0, t1, t2, t3, t4⟩⟩ := five_facts hs5
                obtain ⟨W6, hW6⟩ : ∃ W6, w5.setCell ⟨w1.heap.size, 3, none⟩ (.slice D n dd) = W6 := ⟨_, rfl⟩
                have hkW6 : Keeps [w1.heap.size] w5 W6 := by rw [← hW6]; exact (Keeps.refl _ _).setCell (.inl (by simp)) _
                have hr6 : W6.heap[w1.heap.size]? = some (.cells #[.int .u8 (cc : Int), .int .u8 (nn : Int), .bool false, .slice D n dd, .slice none 0 0] 25 (0, 0)) := by rw [← hW6]; exact heap_setCell_same _ _ 3 _ _ _ hr5
                have hs6 := blk_keep hs5 hkW6 (by have := HIL.out.1; simp; omega)
                obtain ⟨⟨a0, a1, a2, a3, a4⟩, ⟨b0, b1, b2, b3, b4⟩⟩ := five_facts hr6
                obtain ⟨⟨c0, c1, c2, c3, c4⟩, ⟨d0, d1, d2, d3, d4⟩⟩ := five_facts hs6
                have HS6 := Lib.hid hs6
                have HK5 := Lib.hid hk5
                have HK56 := Lib.hid hkW6
                have HBD := Lib.hid hbD
                have HDD := Lib.hid hD
                clear hbD hD hk5 hr5 hs5 hkW6 hr6 hs6
                go_wp2_with fail
                have hzA := HIL.out
                have hrow := five_set (v0 := .int .u8 (cc : Int)) (v1 := .int .u8 (nn : Int)) (v2 := .bool false) (v3 := .slice D n dd) (v4 := .slice none 0 0) HS6.out
                have hkF := five_keep (bs := [w1.heap.size, w.heap.size]) (v0 := .int .u8 (cc : Int)) (v1 := .int .u8 (nn : Int)) (v2 := .bool false) (v3 := .slice D n dd) (v4 := .slice none 0 0) (HK56.out.mono (cs := [w1.heap.size, w.heap.size]) (by simp)) (g := w.heap.size) (.inl (by simp))
                have hk4F := (HK5.out.mono (cs := [w1.heap.size, w.heap.size]) (by simp)).trans' hkF
                have hE : nextD (f + 1) (x :: xs) = .inr (.mk cc nn false (rest.take n) [], rest.drop n) := by
                  have hx3 : ¬ x.toNat / 32 % 2 = 1 := by simpa using HX.out.2.2.1
                  unfold nextD
                  simp only [HL.out]
                  rw [if_neg H31.out, if_neg hn, if_neg hx3, HX.out.1, HX.out.2.1]
                refine ret_ber rfl rfl rfl hrow rfl ⟨.inl ⟨_, _, ⟨cc, nn, false, D, n, dd, none, 0, 0⟩, hE, rfl, fun E X hE hX => ?_, HB4.out.keep hk4F (by simp; omega) (fun y hy => .inl (by simp at hy; omega))⟩, HK24.out.more hk4F (by simp; omega) hrl⟩
                refine BerAt.flat HX.out.2.2.2.1 HX.out.2.2.2.2 (by rw [List.length_take]; omega) (HBD.out.keep (hkF.mono (cs := [w1.heap.size, w.heap.size] ++ E) (fun y hy => .inl (List.mem_append_left _ hy)) |>.trans hX (fun y hy => .inl (List.mem_append_right _ hy))) (fun b hb hm => ?_))
                have h9 := HDD.out b (by rw [← ob_own D n dd, hb]; simp)
                rcases List.mem_append.1 hm with hm | hm
                · simp at hm; omega
                · have := hE b hm; omega
              · have HLP : Hid (LoopR f n (rest.take n) cc nn Bd w2.heap.size w1.heap.size ((dn : Int) + 1) W4 W4 n) := by
                  have h9 := HIL.out
                  refine ⟨[], rest.take n, n, none, 0, [], by rw [List.length_take]; omega, rfl, by rw [List.length_take]; omega, by rw [List.length_take]; simp; omega, ?_, i1, HRG4.out, World.ownsRow_nil _ _ _ _, rfl, fun E X _ _ j t h ht => by simp at ht, Keeps.refl _ _⟩
                  exact HIN.out
                clear i0 i1
                go_wp2_with fail
                clear g0 g1 g2 g3 g4 f0 f1 f2 f3 f4
                go_loopw [43] (fun _ wr => ∃ m, Hid (LoopR f n (rest.take n) cc nn Bd w2.heap.size w1.heap.size ((dn : Int) + 1) W4 wr m)) (fun _ wr => leastOf (LoopR f n (rest.take n) cc nn Bd w2.heap.size w1.heap.size ((dn : Int) + 1) W4 wr))
                case atStart => exact ⟨_, HLP⟩
                case round =>
                  obtain ⟨m0, hm0⟩ := hrel
                  have hst := least_is ⟨m0, hm0.out⟩
                  generalize hmm : leastOf (LoopR f n (rest.take n) cc nn Bd w2.heap.size w1.heap.size ((dn : Int) + 1) W4 wr) = m at *
                  clear hm0 HLP
                  have HMM := Lib.hid hmm
                  clear hmm
                  obtain ⟨acc, ys, kf, VA, vc, hs, hym, hS⟩ := hst
                  have HS := Lib.hid hS
                  have HRW := Lib.hid hS.blk
                  have HOW := Lib.hid hS.row
                  have HKW4 := Lib.hid hS.keeps
                  obtain ⟨C, rc, hC1, hC2⟩ := hS.rb
                  have i0 := hC1.cell
                  have hcnt := hS.cnt
                  have HC := Lib.hid (And.intro hC1 hC2)
                  have hacc : acc.length ≤ 65536 := by
                    have h8 := HPH.out.len
                    have h9 := lenR_len HL.out
                    simp at h8
                    omega
                  clear hC1 hC2
                  by_cases hys : ys = []
                  · subst hys
                    obtain ⟨⟨g0, g1, g2, g3, g4⟩, ⟨f0, f1, f2, f3, f4⟩⟩ := five_facts HRW.out
                    have hres := blk_keep HRES4.out HKW4.out (by have := HIL.out; simp; omega)
                    obtain ⟨⟨c0, c1, c2, c3, c4⟩, ⟨d0, d1, d2, d3, d4⟩⟩ := five_facts hres
                    have HRS := Lib.hid hres
                    have i0' : wr.cell? ⟨w2.heap.size, 0, none⟩ = some (.slice C 0 rc) := i0
                    clear hres i0
                    go_wp2_with fail
                    have hzA := HIL.out
                    have hrow := five_set (v0 := .int .u8 (cc : Int)) (v1 := .int .u8 (nn : Int)) (v2 := .bool true) (v3 := .slice none 0 0) (v4 := .slice VA acc.length vc) HRS.out
                    have hkr := five_keep (bs := [w.heap.size]) (v0 := .int .u8 (cc : Int)) (v1 := .int .u8 (nn : Int)) (v2 := .bool true) (v3 := .slice none 0 0) (v4 := .slice VA acc.length vc) (Keeps.refl [w.heap.size] wr) (g := w.heap.size) (.inl (by simp))
                    have hk4F := (HKW4.out.mono (cs := [w2.heap.size, w1.heap.size, w.heap.size]) (by simp)).trans hkr (fun y hy => .inl (by simp at hy; simp [hy]))
                    have hE : nextD (f + 1) (x :: xs) = .inr (.mk cc nn true [] acc, rest.drop n) := by
                      have hx3 : x.toNat / 32 % 2 = 1 := by simpa using HX.out.2.2.1
                      have he := HS.out.eq
                      have he2 : itemsW (nextD f) kf [] acc = .inr acc := by cases kf <;> rfl
                      rw [he2] at he
                      unfold nextD
                      simp only [HL.out]
                      rw [if_neg H31.out, if_neg hn, if_pos hx3, he, HX.out.1, HX.out.2.1]
                    have hcap := cap_of_own HOW.out
                    refine ret_ber rfl rfl rfl hrow rfl ⟨.inl ⟨_, _, ⟨cc, nn, true, none, 0, 0, VA, acc.length, vc⟩, hE, rfl, fun E X hE hX => ?_, HB4.out.keep hk4F (by simp; omega) (fun y hy => .inl (by simp at hy; omega))⟩, HK24.out.more hk4F (by simp; omega) hrl⟩
                    have hkX : Keeps (w.heap.size :: E) wr X := (hkr.mono (by simp)).trans hX (fun y hy => .inl (List.mem_cons_of_mem _ hy))
                    have hEw : ∀ y ∈ w.heap.size :: E, y < W4.heap.size := fun y hy => by
                      rcases List.mem_cons.1 hy with hy | hy
                      · omega
                      · have := hE y hy; omega
                    refine ⟨rfl, rfl, rfl, HX.out.2.2.2.1, HX.out.2.2.2.2, rfl, BytesAt.none _, rfl, hcap.1, hcap.2, items_own (own_keep HOW.out hkX (fun b hb hm => ?_)) HS.out.hsl rfl (HS.out.items _ X (fun y hy => .inl (hEw y hy)) hkX)⟩
                    have h8 := (HOW.out.lt b hb).1
                    have h9 := hEw b hm
                    omega
                  · have hyl : 0 < ys.length := List.length_pos_iff.2 hys
                    obtain ⟨iu, hiu, hzu0, hzu1, hzu2⟩ := info_parts ber_info
                    have hdn1 : ((dn : Int) + 1) = ((17 - f : Nat) : Int) := by omega
                    have hpl : p < W4.heap.size := lt_of_cell HFN4.out
                    have hpw : wr.cell? ⟨p, 0, none⟩ = some (.func (.func 58) #[] #[.pointer (some ⟨p, 0, none⟩)]) := (HKW4.out.cell (p := ⟨p, 0, none⟩) hpl (by have h8 := lt_of_cell HPH.out.fn; have h9 := HIL.out; simp at h8; simp; omega)).trans HFN4.out
                    have hpn : p ≠ w2.heap.size := by have h8 := lt_of_cell HPH.out.fn; have h9 := HIL.out; simp at h8; omega
                    have HIH := Lib.hid (fun X (hk : Keeps [] wr X) => IH.out f rfl ys Bd w2.heap.size p X ⟨by have h8 := HPH.out.len; have h9 := lenR_len HL.out; simp at h8; omega, HS.out.rb.keep hk (by simp) (by simp), by have := HIL.out; have := hk.size; have := HKW4.out.size; omega, (hk.cell (lt_of_cell HS.out.dep) (by simp)).trans (by rw [HS.out.dep, hdn1]), (hk.cell (p := ⟨p, 0, none⟩) (show p < wr.heap.size from lt_of_cell hpw) (by simp)).trans hpw, hpn⟩)
                    have HPL := Lib.hid hdn1
                    obtain ⟨⟨g0, g1, g2, g3, g4⟩, _⟩ := five_facts HRW.out
                    have hrw : r < W4.heap.size := by have := HIL.out; omega
                    clear hdn1 hpl hpn g0 g1 g2 g3
                    rcases hnx : nextD f ys with no | ⟨t, r'⟩
                    · have HNX : Hid (∀ X, Keeps [] wr X → Calls Try.prog 58 #[.pointer (some ⟨w2.heap.size, 0, none⟩), .pointer (some ⟨p, 0, none⟩)] X fun e w' => e = gaveUp no ∧ KR w2.heap.size X w') := fun X hk => by
                        refine (HIH.out X hk).mono ?_
                        rintro e w' ⟨⟨t', r', h', h1, _⟩ | ⟨no', h1, h2⟩, h3⟩
                        · rw [hnx] at h1; cases h1
                        · rw [hnx] at h1
                          injection h1 with h1
                          subst h1
                          exact ⟨h2, h3⟩
                      have HNO : Hid (nextD (f + 1) (x :: xs) = .inl no) := by
                        have hx3 : x.toNat / 32 % 2 = 1 := by simpa using HX.out.2.2.1
                        have he := HS.out.eq
                        have he2 : itemsW (nextD f) kf ys acc = .inl no := by
                          obtain ⟨kf', rfl⟩ : ∃ kf', kf = kf' + 1 := ⟨kf - 1, by have := HS.out.le; omega⟩
                          cases ys with
                          | nil => exact absurd rfl hys
                          | cons y ys => simp [itemsW, hnx]
                        rw [he2] at he
                        show _ = _
                        unfold nextD
                        simp only [HL.out]
                        rw [if_neg H31.out, if_neg hn, if_pos hx3, he]
                      have HKR : Hid (∀ w6, KR w2.heap.size wr.drew w6 → KR r w w6) := fun w6 hk6 => by
                        have h9 := HIL.out
                        have hk9 : Keeps [w2.heap.size, w1.heap.size] W4 w6 := HKW4.out.drew.trans hk6.keeps (fun y hy => .inl (by simp at hy; simp [hy]))
                        exact HK24.out.more hk9 (by simp; omega) hrl
                      clear hnx
                      go_wp2_with fail
                      refine wp_region_any (by kernel_rfl) ?_
                      change wpAny _ _ _ _ _ _ _ (World.drew _)
                      refine wpAny_take (i := 0) (v := ?_) rfl (by kernel_rfl) (by kernel_rfl) (by kernel_rfl) (fun _ _ _ h => h) (Or.inl ⟨by rfl, ?_⟩) ?_
                      rotate_left 1
                      · (intro w; go_simp; try with_reducible rfl)
                      refine wpAny_ready (rs := [1, 2]) (by kernel_rfl) (by simp) ?_
                      refine AllReady.cons rfl (fun K hK => ?_) ?_
                      · go_simp
                        refine hK _ _ ?_
                        clear hK K
                        refine wpAny_ready (rs := [2]) (by kernel_rfl) (by simp) ?_
                        refine AllReady.cons rfl (fun K hK => ?_) ?_
                        · go_simp
                          refine hK _ _ ?_
                          clear hK K
                          refine wpAny_ready (rs := [3]) (by kernel_rfl) (by simp) ?_
                          refine AllReady.cons rfl (fun K hK => ?_) ?_
                          · (go_simp; refine (HNX.out _ (by repeat (first | exact Keeps.refl [] _ | refine Keeps.alloc ?_ _ | refine Keeps.drew ?_))).mono ?_; rintro e w6 ⟨rfl, hk6⟩; go_wp2_with fail; exact ⟨rfl, .inr ⟨no, HNO.out, rfl⟩, HKR.out w6 hk6⟩)
                          exact AllReady.nil
                        exact AllReady.nil
                      refine AllReady.cons rfl (fun K hK => ?_) ?_
                      · go_simp
                        refine hK _ _ ?_
                        clear hK K
                        refine wpAny_ready (rs := [1, 3]) (by kernel_rfl) (by simp) ?_
                        refine AllReady.cons rfl (fun K hK => ?_) ?_
                        · go_simp
                          refine hK _ _ ?_
                          clear hK K
                          refine wpAny_ready (rs := [3]) (by kernel_rfl) (by simp) ?_
                          refine AllReady.cons rfl (fun K hK => ?_) ?_
                          · (go_simp; refine (HNX.out _ (by repeat (first | exact Keeps.refl [] _ | refine Keeps.alloc ?_ _ | refine Keeps.drew ?_))).mono ?_; rintro e w6 ⟨rfl, hk6⟩; go_wp2_with fail; exact ⟨rfl, .inr ⟨no, HNO.out, rfl⟩, HKR.out w6 hk6⟩)
                          exact AllReady.nil
                        refine AllReady.cons rfl (fun K hK => ?_) ?_
                        · (go_simp; refine (HNX.out _ (by repeat (first | exact Keeps.refl [] _ | refine Keeps.alloc ?_ _ | refine Keeps.drew ?_))).mono ?_; rintro e w6 ⟨rfl, hk6⟩; go_wp2_with fail; exact ⟨rfl, .inr ⟨no, HNO.out, rfl⟩, HKR.out w6 hk6⟩)
                        exact AllReady.nil
                      exact AllReady.nil
                    · have HNX : Hid (∀ X, Keeps [] wr X → Calls Try.prog 58 #[.pointer (some ⟨w2.heap.size, 0, none⟩), .pointer (some ⟨p, 0, none⟩)] X fun e w' => ∃ h : BH, e = .returned h.val ∧ (∀ (E : List Nat) Y, (∀ y ∈ E, y < wr.heap.size) → Keeps E w' Y → BerAt Y t h) ∧ RB w' w2.heap.size r' Bd ∧ KR w2.heap.size wr w') := fun X hk => by
                        refine (HIH.out X hk).mono ?_
                        rintro e w' ⟨⟨t', r'', h', h1, h2, h3, h4⟩ | ⟨no', h1, h2⟩, h5⟩
                        · rw [hnx] at h1
                          injection h1 with h1
                          injection h1 with h1 h6
                          subst h1 h6
                          exact ⟨h', h2, fun E Y hE hY => h3 E Y (fun y hy => Nat.lt_of_lt_of_le (hE y hy) hk.size) hY, h4, (KR.of hk (by have := HIL.out; have := HKW4.out.size; omega)).trans' h5⟩
                        · rw [hnx] at h1; cases h1
                      have HLT : Hid (r'.length < m) := by
                        have := nextD_len hnx
                        show _ < _
                        omega
                      have HNXT := Lib.hid hnx
                      clear hnx
                      go_wp2_with fail
                      refine wp_region_any (by kernel_rfl) ?_
                      change wpAny _ _ _ _ _ _ _ (World.drew _)
                      refine wpAny_take (i := 0) (v := ?_) rfl (by kernel_rfl) (by kernel_rfl) (by kernel_rfl) (fun _ _ _ h => h) (Or.inl ⟨by rfl, ?_⟩) ?_
                      rotate_left 1
                      · (intro w; go_simp; try with_reducible rfl)
                      refine wpAny_ready (rs := [1, 2]) (by kernel_rfl) (by simp) ?_
                      refine AllReady.cons rfl (fun K hK => ?_) ?_
                      · go_simp
                        refine hK _ _ ?_
                        clear hK K
                        refine wpAny_ready (rs := [2]) (by kernel_rfl) (by simp) ?_
                        refine AllReady.cons rfl (fun K hK => ?_) ?_
                        · go_simp
                          refine hK _ _ ?_
                          clear hK K
                          refine wpAny_ready (rs := [3]) (by kernel_rfl) (by simp) ?_
                          refine AllReady.cons rfl (fun K hK => ?_) ?_
                          · go_simp
                            refine (HNX.out _ (by repeat (first | exact Keeps.refl [] _ | refine Keeps.alloc ?_ _ | refine Keeps.drew ?_))).mono ?_
                            rintro e w6 ⟨h, rfl, hpr, hrb, hk6⟩
                            have hr6 := blk_keep HRW.out hk6.keeps (by have := HIL.out; simp; omega)
                            obtain ⟨⟨u0, u1, u2, u3, u4⟩, _⟩ := five_facts hr6
                            have ua4 : ∀ o, (w6.alloc o).cell? ⟨w1.heap.size, 4, none⟩ = some (.slice VA acc.length vc) := fun o => (((Keeps.refl [] w6).alloc o).cell (lt_of_cell u4) (by simp)).trans u4
                            obtain ⟨c', n', k', A', la', ca', B', lb', cb'⟩ := h
                            unfold BH.val
                            have HR9 := Lib.hid (heap_new8 w6 (.cells #[.int .u8 (c' : Int), .int .u8 (n' : Int), .bool k', .slice A' la' ca', .slice B' lb' cb'] 25))
                            have HPR := Lib.hid hpr
                            have HRB := Lib.hid hrb
                            have HK6 := Lib.hid hk6
                            clear hr6 hpr hrb hk6 u0 u1 u2 u3
                            go_simp
                            refine hK _ _ ?_
                            clear hK K
                            refine wpAny_ready (rs := [4]) (by kernel_rfl) (by simp) ?_
                            refine AllReady.cons rfl (fun K hK => ?_) ?_
                            · go_simp
                              refine hK _ _ ?_
                              clear hK K
                              refine wpAny_ready (rs := [5]) (by kernel_rfl) (by simp) ?_
                              refine AllReady.cons rfl (fun K hK => ?_) ?_
                              · have hown7 := own_keep (own_keep HOW.out HK6.out.keeps (by intro b hb hm; have h9 := (HOW.out.lt b hb).1; have := HIL.out; simp at hm; omega)) ((Keeps.refl [] w6).alloc (.cells #[.int .u8 (c' : Int), .int .u8 (n' : Int), .bool k', .slice A' la' ca', .slice B' lb' cb'] 25)) (by simp)
                                have hsrc : Src (w6.alloc (.cells #[.int .u8 (c' : Int), .int .u8 (n' : Int), .bool k', .slice A' la' ca', .slice B' lb' cb'] 25)) (some ⟨w6.heap.size, 0, none⟩) 1 (BH.list ⟨c', n', k', A', la', ca', B', lb', cb'⟩) := by
                                  refine ⟨fun h => by simp at h, fun ad ha q u hu => ?_⟩
                                  injection ha with ha
                                  subst ha
                                  rw [add_at, cell_of_blk HR9.out]
                                  simpa [BH.list] using hu
                                refine wp_append_opt (.tmp 45) (.tmp 48) 23 rfl W4.heap.size 25 iu _ 5 56 Try.underlying23 hiu hzu0 hzu1 hzu2 rfl (by decide) (.slice VA acc.length vc) acc.length (headsL hs) rfl hown7 (some ⟨w6.heap.size, 0, none⟩) 1 1 (BH.list ⟨c', n', k', A', la', ca', B', lb', cb'⟩) rfl rfl hsrc (by simp [BH.list, Value.oneCell']) (by unfold maxLen; omega) (by omega) (by have h8 := HKW4.out.size; have h9 := HK6.out.keeps.size; simp; omega) ?_
                                intro v8 w8 ho8 hg8 hs8
                                obtain ⟨A8, c8, hv8⟩ := own_slice ho8
                                subst hv8
                                have HO8 := Lib.hid ho8
                                have HG8 := Lib.hid hg8
                                have HS8 := Lib.hid hs8
                                have hr8 : w8.heap[w1.heap.size]? = some (.cells #[.int .u8 (cc : Int), .int .u8 (nn : Int), .bool true, .slice none 0 0, .slice VA acc.length vc] 25 (0, 0)) := blk_keep (blk_keep (blk_keep HRW.out HK6.out.keeps (by have := HIL.out; simp; omega)) ((Keeps.refl [] w6).alloc (.cells #[.int .u8 (c' : Int), .int .u8 (n' : Int), .bool k', .slice A' la' ca', .slice B' lb' cb'] 25)) (by simp)) (Keeps.of_grown (bs := (Value.slice VA acc.length vc).ownBlock.toList) hg8 (fun x hx => .inl (by rw [hx]; simp))) (fun hm => by have h9 := (HOW.out.lt _ (by simpa using hm)).1; have := HIL.out; omega)
                                obtain ⟨⟨v0, v1, v2, v3, v4⟩, ⟨q0, q1, q2, q3, q4⟩⟩ := five_facts hr8
                                clear ho8 hg8 hs8 hr8 hown7 hsrc v0 v1 v2 v3 q0 q1 q2 q3
                                refine hK _ _ ?_
                                clear hK K
                                refine wpAny_take (i := 6) (v := ?_) rfl (by kernel_rfl) (by kernel_rfl) (by kernel_rfl) (fun _ _ _ h => h) (Or.inl ⟨by rfl, ?_⟩) ?_
                                rotate_left 1
                                · (intro w; go_simp; try with_reducible rfl)
                                refine wpAny_ready (rs := [7]) (by kernel_rfl) (by simp) ?_
                                refine AllReady.cons rfl (fun K hK => ?_) ?_
                                · go_simp
                                  refine hK _ _ ?_
                                  clear hK K
                                  refine wpAny_done (by kernel_rfl) ?_ _
                                  have HNEW : Hid (LoopR f n (rest.take n) cc nn Bd w2.heap.size w1.heap.size ((dn : Int) + 1) W4 (w8.setCell ⟨w1.heap.size, 4, none⟩ (.slice A8 (acc.length + 1) c8)) r'.length) := by
                                    have h9 := HIL.out
                                    exact ⟨_, _, _, _, _, _, rfl, HS.out.step (by omega) (by omega) (by omega) (by omega) (by omega) hys HNXT.out HK6.out HPR.out HRB.out ((Keeps.refl [] w6).alloc (.cells #[.int .u8 (c' : Int), .int .u8 (n' : Int), .bool k', .slice A' la' ca', .slice B' lb' cb'] 25)) HO8.out HG8.out HS8.out⟩
                                  have hle9 := least_le HNEW.out
                                  clear HO8 HG8 HS8 HPR HRB HK6 HR9 v4 q4
                                  go_wp2_with fail
                                  go_roundw
                                  case rel => exact ⟨_, HNEW⟩
                                  case measure => first | exact Nat.lt_of_le_of_lt hle9 HLT.out | (rw [HMM.out]; exact Nat.lt_of_le_of_lt hle9 HLT.out)
                                exact AllReady.nil
                              exact AllReady.nil
                            exact AllReady.nil
                          exact AllReady.nil
                        exact AllReady.nil
                      refine AllReady.cons rfl (fun K hK => ?_) ?_
                      · go_simp
                        refine hK _ _ ?_
                        clear hK K
                        refine wpAny_ready (rs := [1, 3]) (by kernel_rfl) (by simp) ?_
                        refine AllReady.cons rfl (fun K hK => ?_) ?_
                        · go_simp
                          refine hK _ _ ?_
                          clear hK K
                          refine wpAny_ready (rs := [3]) (by kernel_rfl) (by simp) ?_
                          refine AllReady.cons rfl (fun K hK => ?_) ?_
                          · go_simp
                            refine (HNX.out _ (by repeat (first | exact Keeps.refl [] _ | refine Keeps.alloc ?_ _ | refine Keeps.drew ?_))).mono ?_
                            rintro e w6 ⟨h, rfl, hpr, hrb, hk6⟩
                            have hr6 := blk_keep HRW.out hk6.keeps (by have := HIL.out; simp; omega)
                            obtain ⟨⟨u0, u1, u2, u3, u4⟩, _⟩ := five_facts hr6
                            have ua4 : ∀ o, (w6.alloc o).cell? ⟨w1.heap.size, 4, none⟩ = some (.slice VA acc.length vc) := fun o => (((Keeps.refl [] w6).alloc o).cell (lt_of_cell u4) (by simp)).trans u4
                            obtain ⟨c', n', k', A', la', ca', B', lb', cb'⟩ := h
                            unfold BH.val
                            have HR9 := Lib.hid (heap_new8 w6 (.cells #[.int .u8 (c' : Int), .int .u8 (n' : Int), .bool k', .slice A' la' ca', .slice B' lb' cb'] 25))
                            have HPR := Lib.hid hpr
                            have HRB := Lib.hid hrb
                            have HK6 := Lib.hid hk6
                            clear hr6 hpr hrb hk6 u0 u1 u2 u3
                            go_simp
                            refine hK _ _ ?_
                            clear hK K
                            refine wpAny_ready (rs := [4]) (by kernel_rfl) (by simp) ?_
                            refine AllReady.cons rfl (fun K hK => ?_) ?_
                            · go_simp
                              refine hK _ _ ?_
                              clear hK K
                              refine wpAny_ready (rs := [5]) (by kernel_rfl) (by simp) ?_
                              refine AllReady.cons rfl (fun K hK => ?_) ?_
                              · have hown7 := own_keep (own_keep HOW.out HK6.out.keeps (by intro b hb hm; have h9 := (HOW.out.lt b hb).1; have := HIL.out; simp at hm; omega)) ((Keeps.refl [] w6).alloc (.cells #[.int .u8 (c' : Int), .int .u8 (n' : Int), .bool k', .slice A' la' ca', .slice B' lb' cb'] 25)) (by simp)
                                have hsrc : Src (w6.alloc (.cells #[.int .u8 (c' : Int), .int .u8 (n' : Int), .bool k', .slice A' la' ca', .slice B' lb' cb'] 25)) (some ⟨w6.heap.size, 0, none⟩) 1 (BH.list ⟨c', n', k', A', la', ca', B', lb', cb'⟩) := by
                                  refine ⟨fun h => by simp at h, fun ad ha q u hu => ?_⟩
                                  injection ha with ha
                                  subst ha
                                  rw [add_at, cell_of_blk HR9.out]
                                  simpa [BH.list] using hu
                                refine wp_append_opt (.tmp 45) (.tmp 48) 23 rfl W4.heap.size 25 iu _ 5 56 Try.underlying23 hiu hzu0 hzu1 hzu2 rfl (by decide) (.slice VA acc.length vc) acc.length (headsL hs) rfl hown7 (some ⟨w6.heap.size, 0, none⟩) 1 1 (BH.list ⟨c', n', k', A', la', ca', B', lb', cb'⟩) rfl rfl hsrc (by simp [BH.list, Value.oneCell']) (by unfold maxLen; omega) (by omega) (by have h8 := HKW4.out.size; have h9 := HK6.out.keeps.size; simp; omega) ?_
                                intro v8 w8 ho8 hg8 hs8
                                obtain ⟨A8, c8, hv8⟩ := own_slice ho8
                                subst hv8
                                have HO8 := Lib.hid ho8
                                have HG8 := Lib.hid hg8
                                have HS8 := Lib.hid hs8
                                have hr8 : w8.heap[w1.heap.size]? = some (.cells #[.int .u8 (cc : Int), .int .u8 (nn : Int), .bool true, .slice none 0 0, .slice VA acc.length vc] 25 (0, 0)) := blk_keep (blk_keep (blk_keep HRW.out HK6.out.keeps (by have := HIL.out; simp; omega)) ((Keeps.refl [] w6).alloc (.cells #[.int .u8 (c' : Int), .int .u8 (n' : Int), .bool k', .slice A' la' ca', .slice B' lb' cb'] 25)) (by simp)) (Keeps.of_grown (bs := (Value.slice VA acc.length vc).ownBlock.toList) hg8 (fun x hx => .inl (by rw [hx]; simp))) (fun hm => by have h9 := (HOW.out.lt _ (by simpa using hm)).1; have := HIL.out; omega)
                                obtain ⟨⟨v0, v1, v2, v3, v4⟩, ⟨q0, q1, q2, q3, q4⟩⟩ := five_facts hr8
                                clear ho8 hg8 hs8 hr8 hown7 hsrc v0 v1 v2 v3 q0 q1 q2 q3
                                refine hK _ _ ?_
                                clear hK K
                                refine wpAny_take (i := 6) (v := ?_) rfl (by kernel_rfl) (by kernel_rfl) (by kernel_rfl) (fun _ _ _ h => h) (Or.inl ⟨by rfl, ?_⟩) ?_
                                rotate_left 1
                                · (intro w; go_simp; try with_reducible rfl)
                                refine wpAny_ready (rs := [7]) (by kernel_rfl) (by simp) ?_
                                refine AllReady.cons rfl (fun K hK => ?_) ?_
                                · go_simp
                                  refine hK _ _ ?_
                                  clear hK K
                                  refine wpAny_done (by kernel_rfl) ?_ _
                                  have HNEW : Hid (LoopR f n (rest.take n) cc nn Bd w2.heap.size w1.heap.size ((dn : Int) + 1) W4 (w8.setCell ⟨w1.heap.size, 4, none⟩ (.slice A8 (acc.length + 1) c8)) r'.length) := by
                                    have h9 := HIL.out
                                    exact ⟨_, _, _, _, _, _, rfl, HS.out.step (by omega) (by omega) (by omega) (by omega) (by omega) hys HNXT.out HK6.out HPR.out HRB.out ((Keeps.refl [] w6).alloc (.cells #[.int .u8 (c' : Int), .int .u8 (n' : Int), .bool k', .slice A' la' ca', .slice B' lb' cb'] 25)) HO8.out HG8.out HS8.out⟩
                                  have hle9 := least_le HNEW.out
                                  clear HO8 HG8 HS8 HPR HRB HK6 HR9 v4 q4
                                  go_wp2_with fail
                                  go_roundw
                                  case rel => exact ⟨_, HNEW⟩
                                  case measure => first | exact Nat.lt_of_le_of_lt hle9 HLT.out | (rw [HMM.out]; exact Nat.lt_of_le_of_lt hle9 HLT.out)
                                exact AllReady.nil
                              exact AllReady.nil
                            exact AllReady.nil
                          exact AllReady.nil
                        refine AllReady.cons rfl (fun K hK => ?_) ?_
                        · go_simp
                          refine (HNX.out _ (by repeat (first | exact Keeps.refl [] _ | refine Keeps.alloc ?_ _ | refine Keeps.drew ?_))).mono ?_
                          rintro e w6 ⟨h, rfl, hpr, hrb, hk6⟩
                          have hr6 := blk_keep HRW.out hk6.keeps (by have := HIL.out; simp; omega)
                          obtain ⟨⟨u0, u1, u2, u3, u4⟩, _⟩ := five_facts hr6
                          have ua4 : ∀ o, (w6.alloc o).cell? ⟨w1.heap.size, 4, none⟩ = some (.slice VA acc.length vc) := fun o => (((Keeps.refl [] w6).alloc o).cell (lt_of_cell u4) (by simp)).trans u4
                          obtain ⟨c', n', k', A', la', ca', B', lb', cb'⟩ := h
                          unfold BH.val
                          have HR9 := Lib.hid (heap_new8 w6 (.cells #[.int .u8 (c' : Int), .int .u8 (n' : Int), .bool k', .slice A' la' ca', .slice B' lb' cb'] 25))
                          have HPR := Lib.hid hpr
                          have HRB := Lib.hid hrb
                          have HK6 := Lib.hid hk6
                          clear hr6 hpr hrb hk6 u0 u1 u2 u3
                          go_simp
                          refine hK _ _ ?_
                          clear hK K
                          refine wpAny_ready (rs := [1, 4]) (by kernel_rfl) (by simp) ?_
                          refine AllReady.cons rfl (fun K hK => ?_) ?_
                          · go_simp
                            refine hK _ _ ?_
                            clear hK K
                            refine wpAny_ready (rs := [4]) (by kernel_rfl) (by simp) ?_
                            refine AllReady.cons rfl (fun K hK => ?_) ?_
                            · go_simp
                              refine hK _ _ ?_
                              clear hK K
                              refine wpAny_ready (rs := [5]) (by kernel_rfl) (by simp) ?_
                              refine AllReady.cons rfl (fun K hK => ?_) ?_
                              · have hown7 := own_keep (own_keep HOW.out HK6.out.keeps (by intro b hb hm; have h9 := (HOW.out.lt b hb).1; have := HIL.out; simp at hm; omega)) ((Keeps.refl [] w6).alloc (.cells #[.int .u8 (c' : Int), .int .u8 (n' : Int), .bool k', .slice A' la' ca', .slice B' lb' cb'] 25)) (by simp)
                                have hsrc : Src (w6.alloc (.cells #[.int .u8 (c' : Int), .int .u8 (n' : Int), .bool k', .slice A' la' ca', .slice B' lb' cb'] 25)) (some ⟨w6.heap.size, 0, none⟩) 1 (BH.list ⟨c', n', k', A', la', ca', B', lb', cb'⟩) := by
                                  refine ⟨fun h => by simp at h, fun ad ha q u hu => ?_⟩
                                  injection ha with ha
                                  subst ha
                                  rw [add_at, cell_of_blk HR9.out]
                                  simpa [BH.list] using hu
                                refine wp_append_opt (.tmp 45) (.tmp 48) 23 rfl W4.heap.size 25 iu _ 5 56 Try.underlying23 hiu hzu0 hzu1 hzu2 rfl (by decide) (.slice VA acc.length vc) acc.length (headsL hs) rfl hown7 (some ⟨w6.heap.size, 0, none⟩) 1 1 (BH.list ⟨c', n', k', A', la', ca', B', lb', cb'⟩) rfl rfl hsrc (by simp [BH.list, Value.oneCell']) (by unfold maxLen; omega) (by omega) (by have h8 := HKW4.out.size; have h9 := HK6.out.keeps.size; simp; omega) ?_
                                intro v8 w8 ho8 hg8 hs8
                                obtain ⟨A8, c8, hv8⟩ := own_slice ho8
                                subst hv8
                                have HO8 := Lib.hid ho8
                                have HG8 := Lib.hid hg8
                                have HS8 := Lib.hid hs8
                                have hr8 : w8.heap[w1.heap.size]? = some (.cells #[.int .u8 (cc : Int), .int .u8 (nn : Int), .bool true, .slice none 0 0, .slice VA acc.length vc] 25 (0, 0)) := blk_keep (blk_keep (blk_keep HRW.out HK6.out.keeps (by have := HIL.out; simp; omega)) ((Keeps.refl [] w6).alloc (.cells #[.int .u8 (c' : Int), .int .u8 (n' : Int), .bool k', .slice A' la' ca', .slice B' lb' cb'] 25)) (by simp)) (Keeps.of_grown (bs := (Value.slice VA acc.length vc).ownBlock.toList) hg8 (fun x hx => .inl (by rw [hx]; simp))) (fun hm => by have h9 := (HOW.out.lt _ (by simpa using hm)).1; have := HIL.out; omega)
                                obtain ⟨⟨v0, v1, v2, v3, v4⟩, ⟨q0, q1, q2, q3, q4⟩⟩ := five_facts hr8
                                clear ho8 hg8 hs8 hr8 hown7 hsrc v0 v1 v2 v3 q0 q1 q2 q3
                                refine hK _ _ ?_
                                clear hK K
                                refine wpAny_take (i := 6) (v := ?_) rfl (by kernel_rfl) (by kernel_rfl) (by kernel_rfl) (fun _ _ _ h => h) (Or.inl ⟨by rfl, ?_⟩) ?_
                                rotate_left 1
                                · (intro w; go_simp; try with_reducible rfl)
                                refine wpAny_ready (rs := [7]) (by kernel_rfl) (by simp) ?_
                                refine AllReady.cons rfl (fun K hK => ?_) ?_
                                · go_simp
                                  refine hK _ _ ?_
                                  clear hK K
                                  refine wpAny_done (by kernel_rfl) ?_ _
                                  have HNEW : Hid (LoopR f n (rest.take n) cc nn Bd w2.heap.size w1.heap.size ((dn : Int) + 1) W4 (w8.setCell ⟨w1.heap.size, 4, none⟩ (.slice A8 (acc.length + 1) c8)) r'.length) := by
                                    have h9 := HIL.out
                                    exact ⟨_, _, _, _, _, _, rfl, HS.out.step (by omega) (by omega) (by omega) (by omega) (by omega) hys HNXT.out HK6.out HPR.out HRB.out ((Keeps.refl [] w6).alloc (.cells #[.int .u8 (c' : Int), .int .u8 (n' : Int), .bool k', .slice A' la' ca', .slice B' lb' cb'] 25)) HO8.out HG8.out HS8.out⟩
                                  have hle9 := least_le HNEW.out
                                  clear HO8 HG8 HS8 HPR HRB HK6 HR9 v4 q4
                                  go_wp2_with fail
                                  go_roundw
                                  case rel => exact ⟨_, HNEW⟩
                                  case measure => first | exact Nat.lt_of_le_of_lt hle9 HLT.out | (rw [HMM.out]; exact Nat.lt_of_le_of_lt hle9 HLT.out)
                                exact AllReady.nil
                              exact AllReady.nil
                            exact AllReady.nil
                          refine AllReady.cons rfl (fun K hK => ?_) ?_
                          · go_simp
                            refine hK _ _ ?_
                            clear hK K
                            refine wpAny_ready (rs := [1]) (by kernel_rfl) (by simp) ?_
                            refine AllReady.cons rfl (fun K hK => ?_) ?_
                            · go_simp
                              refine hK _ _ ?_
                              clear hK K
                              refine wpAny_ready (rs := [5]) (by kernel_rfl) (by simp) ?_
                              refine AllReady.cons rfl (fun K hK => ?_) ?_
                              · have hown7 := own_keep (own_keep HOW.out HK6.out.keeps (by intro b hb hm; have h9 := (HOW.out.lt b hb).1; have := HIL.out; simp at hm; omega)) ((Keeps.refl [] w6).alloc (.cells #[.int .u8 (c' : Int), .int .u8 (n' : Int), .bool k', .slice A' la' ca', .slice B' lb' cb'] 25)) (by simp)
                                have hsrc : Src (w6.alloc (.cells #[.int .u8 (c' : Int), .int .u8 (n' : Int), .bool k', .slice A' la' ca', .slice B' lb' cb'] 25)) (some ⟨w6.heap.size, 0, none⟩) 1 (BH.list ⟨c', n', k', A', la', ca', B', lb', cb'⟩) := by
                                  refine ⟨fun h => by simp at h, fun ad ha q u hu => ?_⟩
                                  injection ha with ha
                                  subst ha
                                  rw [add_at, cell_of_blk HR9.out]
                                  simpa [BH.list] using hu
                                refine wp_append_opt (.tmp 45) (.tmp 48) 23 rfl W4.heap.size 25 iu _ 5 56 Try.underlying23 hiu hzu0 hzu1 hzu2 rfl (by decide) (.slice VA acc.length vc) acc.length (headsL hs) rfl hown7 (some ⟨w6.heap.size, 0, none⟩) 1 1 (BH.list ⟨c', n', k', A', la', ca', B', lb', cb'⟩) rfl rfl hsrc (by simp [BH.list, Value.oneCell']) (by unfold maxLen; omega) (by omega) (by have h8 := HKW4.out.size; have h9 := HK6.out.keeps.size; simp; omega) ?_
                                intro v8 w8 ho8 hg8 hs8
                                obtain ⟨A8, c8, hv8⟩ := own_slice ho8
                                subst hv8
                                have HO8 := Lib.hid ho8
                                have HG8 := Lib.hid hg8
                                have HS8 := Lib.hid hs8
                                have hr8 : w8.heap[w1.heap.size]? = some (.cells #[.int .u8 (cc : Int), .int .u8 (nn : Int), .bool true, .slice none 0 0, .slice VA acc.length vc] 25 (0, 0)) := blk_keep (blk_keep (blk_keep HRW.out HK6.out.keeps (by have := HIL.out; simp; omega)) ((Keeps.refl [] w6).alloc (.cells #[.int .u8 (c' : Int), .int .u8 (n' : Int), .bool k', .slice A' la' ca', .slice B' lb' cb'] 25)) (by simp)) (Keeps.of_grown (bs := (Value.slice VA acc.length vc).ownBlock.toList) hg8 (fun x hx => .inl (by rw [hx]; simp))) (fun hm => by have h9 := (HOW.out.lt _ (by simpa using hm)).1; have := HIL.out; omega)
                                obtain ⟨⟨v0, v1, v2, v3, v4⟩, ⟨q0, q1, q2, q3, q4⟩⟩ := five_facts hr8
                                clear ho8 hg8 hs8 hr8 hown7 hsrc v0 v1 v2 v3 q0 q1 q2 q3
                                refine hK _ _ ?_
                                clear hK K
                                refine wpAny_take (i := 6) (v := ?_) rfl (by kernel_rfl) (by kernel_rfl) (by kernel_rfl) (fun _ _ _ h => h) (Or.inl ⟨by rfl, ?_⟩) ?_
                                rotate_left 1
                                · (intro w; go_simp; try with_reducible rfl)
                                refine wpAny_ready (rs := [7]) (by kernel_rfl) (by simp) ?_
                                refine AllReady.cons rfl (fun K hK => ?_) ?_
                                · go_simp
                                  refine hK _ _ ?_
                                  clear hK K
                                  refine wpAny_done (by kernel_rfl) ?_ _
                                  have HNEW : Hid (LoopR f n (rest.take n) cc nn Bd w2.heap.size w1.heap.size ((dn : Int) + 1) W4 (w8.setCell ⟨w1.heap.size, 4, none⟩ (.slice A8 (acc.length + 1) c8)) r'.length) := by
                                    have h9 := HIL.out
                                    exact ⟨_, _, _, _, _, _, rfl, HS.out.step (by omega) (by omega) (by omega) (by omega) (by omega) hys HNXT.out HK6.out HPR.out HRB.out ((Keeps.refl [] w6).alloc (.cells #[.int .u8 (c' : Int), .int .u8 (n' : Int), .bool k', .slice A' la' ca', .slice B' lb' cb'] 25)) HO8.out HG8.out HS8.out⟩
                                  have hle9 := least_le HNEW.out
                                  clear HO8 HG8 HS8 HPR HRB HK6 HR9 v4 q4
                                  go_wp2_with fail
                                  go_roundw
                                  case rel => exact ⟨_, HNEW⟩
                                  case measure => first | exact Nat.lt_of_le_of_lt hle9 HLT.out | (rw [HMM.out]; exact Nat.lt_of_le_of_lt hle9 HLT.out)
                                exact AllReady.nil
                              exact AllReady.nil
                            exact AllReady.nil
                          exact AllReady.nil
                        exact AllReady.nil
                      exact AllReady.nil
        · have HE : Hid (nextD (f + 1) (x :: xs) = .inl 151) := by
            show _ = _
            unfold nextD
            simp [H31.out, hl]
          have HK2 := Lib.hid (HKW.out.trans' hk2)
          clear hl hk2
          go_wp2_with fail
          exact ⟨rfl, .inr ⟨151, HE.out, rfl⟩, HK2.out⟩

end Go.Proofs.Ytnengckecooohaa
