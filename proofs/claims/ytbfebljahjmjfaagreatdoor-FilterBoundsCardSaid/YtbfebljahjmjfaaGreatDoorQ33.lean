import Derived.Test.YtbfebljahjmjfaaGreatDoorQ32
import Derived.BigQuiet
/- filter: readText's closure; walked. -/
namespace Go.Proofs.YtbfebljahjmjfaaGreatDoor
open Go.RowKit Go.Shelf
set_option linter.unusedVariables false
set_option linter.unusedSimpArgs false
set_option maxRecDepth 100000

set_option maxHeartbeats 16000000 in
theorem readtc_is (gp gr gx gm gn : Nat) (w0 : World) (hgm0 : w0.heap.size ≤ gm) (hgr0 : w0.heap.size ≤ gr) (hG : SgnAt w0) (hsy : SynAt w0) : ∀ (f d m : Nat) (T : Txt) (w : World), 2 * (201 - m) ≤ f → d ≤ 17 → m ≤ 200 → T.length ≤ 1000000000 → Keeps [] w0 w → EnvR gp gr gx gm gn w → PassAt w gm gn m 180 → RstAt w gr T →
  Calls Tryz.prog 81 #[.int .i64 (d : Int), .pointer (some ⟨gp, 0, none⟩), .pointer (some ⟨gr, 0, none⟩), .pointer (some ⟨gx, 0, none⟩)] w (RdQ f d m T gm gn gr w) := by
 obtain ⟨iu, hiu, hzu0, hzu1, hzu2⟩ := info_parts fil_info8
 have hG0 := lt_of_cell hG.1
 dsimp only at hG0
 have hsy0 := hsy.lt
 intro f
 induction f using Nat.strongRecOn with
 | ind f ih =>
  intro d m T w hf hd hm hT hk0 hE hP hR
  obtain ⟨F, rfl⟩ : ∃ F, f = F + 1 := ⟨f - 1, by omega⟩
  have IH := Lib.hid ih
  have hgmw := lt_of_heap hP.many
  have hgnw := lt_of_heap hP.no
  have hgrw := hR.lt
  have hgxw : gx < w.heap.size := lt_of_cell hE.next
  have HNE : Hid (gm ≠ gr ∧ gn ≠ gr) := ⟨hE.n5, hE.n6⟩
  have HPS := Lib.hid (fun X hX => pass8_is d gm gn m 180 X (by omega) (by omega) hX)
  have HFU := Lib.hid hf
  have HTL := Lib.hid hT
  have HK0 := Lib.hid hk0
  have HE := Lib.hid hE
  have HSG : Hid (∀ X, Keeps [gm, gr] w X → SgnAt X ∧ SynAt X) := fun X hX => by
   have h9 : Keeps [] w0 X := hk0.trans hX (fun x hx => .inr (by simp at hx; rcases hx with rfl | rfl <;> omega))
   exact ⟨hG.keep h9, hsy.keep h9 (by simp)⟩
  have HSN : Hid (0 ≠ gr ∧ 3 ≠ gr) := ⟨by omega, by omega⟩
  have HB1 := Lib.hid (heap_new8 w (.cells #[.int .i64 0, .slice none 0 0, .string ⟨#[]⟩, .string ⟨#[]⟩] 26))
  have HK1 : Hid (Keeps [] w (w.alloc (.cells #[.int .i64 0, .slice none 0 0, .string ⟨#[]⟩, .string ⟨#[]⟩] 26))) := (Keeps.refl [] w).alloc _
  have HP1 := Lib.hid (hP.keep HK1.out (by simp) (by simp))
  have HR1 := Lib.hid (hR.keep HK1.out (by simp))
  obtain ⟨e1, e2, _, _, _, _, _, _⟩ := hE.keep (HK1.out.mono (by simp))
  clear hf hT hk0 hE hP hR ih hG hsy
  go_enter Tryz.func81, Tryz.ntmps81
  go_wp2_with fail
  generalize w.alloc (.cells #[.int .i64 0, .slice none 0 0, .string ⟨#[]⟩, .string ⟨#[]⟩] 26) = W1 at HB1 HK1 HP1 HR1 e1 e2 ⊢
  refine (HPS.out W1 HP1.out).mono ?_
  rintro e w2 ⟨⟨hc, rfl⟩ | ⟨hc, rfl⟩, hp2, hk2⟩
  rotate_left
  ·have HK2 : Hid (Keeps [gm, gr] w w2) := (HK1.out.mono (by simp)).trans hk2 (fun x hx => .inl (by simp at hx; simp [hx]))
   have HNO : Hid (rdF (F + 1) d m T = none) := rdF_off hc
   clear hk2 hp2 hc
   go_wp2_with fail
   exact ⟨rfl, .inr ⟨HNO.out, rfl⟩, HK2.out⟩
  ·have HC := Lib.hid hc
   have HK2 : Hid (Keeps [gm, gr] w w2) := (HK1.out.mono (by simp)).trans hk2 (fun x hx => .inl (by simp at hx; simp [hx]))
   have HP2 := Lib.hid hp2
   have HR2 : Hid (RstAt w2 gr T) := HR1.out.keep hk2 (by have := HNE.out.1; simp; omega)
   have HB2 := Lib.hid (blk_keep HB1.out hk2 (by simp; omega))
   clear hk2 hp2 hc
   have HTN := Lib.hid (take8_no gr T [40] _ HR2.out HTL.out (by decide))
   have HTY := Lib.hid (take8_yes gr T [40] _ HR2.out HTL.out (by decide))
   unfold tv at HTN HTY
   cases hb : begP [40] T with
   | false =>
    have HT := Lib.hid (HTN.out hb)
    have HNO : Hid (rdF (F + 1) d m T = none) := rdF_closed hb
    clear hb HTN HTY
    go_wp2_with fail
    refine HT.out.mono ?_
    rintro e w3 ⟨rfl, hk3⟩
    have HK3 : Hid (Keeps [gm, gr] w w3) := HK2.out.trans hk3 (fun x hx => .inl (by simp at hx; simp [hx]))
    clear hk3
    go_wp2_with fail
    exact ⟨rfl, .inr ⟨HNO.out, rfl⟩, HK3.out⟩
   | true =>
    have HT := Lib.hid (HTY.out hb)
    have HB40 := Lib.hid hb
    clear hb HTN HTY
    go_wp2_with fail
    refine HT.out.mono ?_
    rintro e w3 ⟨rfl, hr3, hk3⟩
    have HK3 : Hid (Keeps [gm, gr] w w3) := HK2.out.trans hk3 (fun x hx => .inl (by simp at hx; simp [hx]))
    have HP3 : Hid (PassAt w3 gm gn (m + 1) 180) := HP2.out.keep hk3 (by have := HNE.out.1; simp; omega) (by have := HNE.out.2; simp; omega)
    have HB3 := Lib.hid (blk_keep HB2.out hk3 (by simp; omega))
    have hTd : (T.drop 1).length ≤ 1000000000 := by have := HTL.out; simp; omega
    have HHD := Lib.hid (head8_is gr (T.drop 1) w3 hr3 hTd (HSG.out w3 HK3.out).1 (HSG.out w3 HK3.out).2 HSN.out.1 HSN.out.2)
    clear hk3 hr3
    go_wp2_with fail
    refine HHD.out.mono ?_
    rintro e w4 ⟨hy4, hn4, hk4⟩
    have HK4 : Hid (Keeps [gm, gr] w w4) := HK3.out.trans hk4 (fun x hx => .inl (by simp at hx; simp [hx]))
    cases hh : headP (T.drop 1) with
    | none =>
     have HNO : Hid (rdF (F + 1) d m T = none) := rdF_nohead hh
     obtain rfl := hn4 hh
     clear hy4 hn4 hk4 hh
     go_wp2_with fail
     exact ⟨rfl, .inr ⟨HNO.out, rfl⟩, HK4.out⟩
    | some q =>
     obtain ⟨k, s, v, R0⟩ := q
     obtain ⟨rfl, hr4⟩ := hy4 k s v R0 hh
     have HH := Lib.hid hh
     have hhf := headP_facts hh
     have HP4 : Hid (PassAt w4 gm gn (m + 1) 180) := HP3.out.keep hk4 (by have := HNE.out.1; simp; omega) (by have := HNE.out.2; simp; omega)
     have HB4 := Lib.hid (blk_keep HB3.out hk4 (by simp; omega))
     have HR4 := Lib.hid hr4
     have HKB : Hid (-9223372036854775808 ≤ k ∧ k ≤ 9223372036854775807) := ⟨by omega, by omega⟩
     have HLN : Hid (s.length ≤ 9223372036854775807 ∧ v.length ≤ 9223372036854775807) := ⟨by omega, by omega⟩
     have HLR : Hid (R0.length ≤ 1000000000) := by show _ ≤ _; omega
     clear hy4 hn4 hk4 hh hhf hr4 hTd HHD HT HPS HP1 HP2 HP3 HR1 HR2 HB1 HB2 HB3
     unfold FH.val tv
     dsimp only
     have HZ4 := Lib.hid (heap_new8 w4 (.cells #[.int .i64 k, .slice none 0 0, .string ⟨s.toArray⟩, .string ⟨v.toArray⟩] 26))
     have HK5 : Hid (Keeps [] w4 (w4.alloc (.cells #[.int .i64 k, .slice none 0 0, .string ⟨s.toArray⟩, .string ⟨v.toArray⟩] 26))) := (Keeps.refl [] w4).alloc _
     have hBw : w.heap.size < w4.heap.size := lt_of_heap HB4.out
     have HS0 : Hid (RedS w (w4.alloc (.cells #[.int .i64 k, .slice none 0 0, .string ⟨s.toArray⟩, .string ⟨v.toArray⟩] 26)) gm gn gr w4.heap.size k s v none 0 0 [] [] (m + 1) R0) := ⟨HP4.out.keep HK5.out (by simp) (by simp), HR4.out.keep HK5.out (by simp), HZ4.out, blk_keep HB4.out HK5.out (by simp), World.ownsRow_nil _ _ _ _, rfl, rfl, (fun _ _ _ _ i t h ht => by simp at ht), HK4.out.trans' (HK5.out.mono (by simp)), hBw, HLR.out, by have := HC.out.1; omega, Nat.zero_le _⟩
     clear e1 e2
     go_wp2_with fail
     generalize w4.alloc (.cells #[.int .i64 k, .slice none 0 0, .string ⟨s.toArray⟩, .string ⟨v.toArray⟩] 26) = W5 at HS0 ⊢
     generalize w4.heap.size = B at HS0 hBw ⊢
     go_loopw [] (fun wr => ∃ (A : Option Addr) (j c : Nat) (hs : List FH) (l : List FV) (n : Nat) (R : Txt), Hid (RedS w wr gm gn gr B k s v A j c hs l n R) ∧ Hid (RdI F (d + 1) (m + 1) R0 l n R) ∧ Hid (¬ k ≤ 3 → l = [] ∧ n = m + 1 ∧ R = R0)) (fun wr => cntW gm wr)
     case atStart => exact ⟨none, 0, 0, [], [], m + 1, R0, HS0.out, RdI.start (by have := HFU.out; omega), fun _ => ⟨rfl, rfl, rfl⟩⟩
     case round =>
      obtain ⟨A, j, c, hs, l, n, R, HS', HI, HK9⟩ := hrel
      have HMU := Lib.hid (cntW_is HS'.out.pass)
      obtain ⟨⟨q0, q1, q2, q3⟩, p0, p1, p2, p3⟩ := four_facts8 HS'.out.box
      obtain ⟨r0, r1⟩ := HS'.out.rst.cells
      clear HS0
      by_cases hk3 : k ≤ 3
      ·have HK3 := Lib.hid hk3
       have HSP := Lib.hid (sprefix_is R [40] wr (by have := HS'.out.len; omega) (by decide))
       unfold tv at HSP
       cases hb2 : begP [40] R with
       | false =>
        have HRL : Hid ((if k ≤ 3 then rdL F (d + 1) (m + 1) R0 else some ([], m + 1, R0)) = some (l, n, R)) := by show _ = _; rw [if_pos HK3.out]; exact HI.out.fin hb2
        rw [hb2] at HSP
        clear hb2
        go_wp2_with fail
        refine HSP.out.mono ?_
        rintro e X ⟨rfl, hkX⟩
        have HS := Lib.hid (HS'.out.grow hkX)
        clear hkX q0 q1 q2 q3 p0 p1 p2 p3 r0 r1 HS' HSP
        have HTN := Lib.hid (take8_no gr R [41] _ HS.out.rst HS.out.len (by decide))
        have HTY := Lib.hid (take8_yes gr R [41] _ HS.out.rst HS.out.len (by decide))
        unfold tv at HTN HTY
        cases hb3 : begP [41] R with
        | false =>
         have HT := Lib.hid (HTN.out hb3)
         have HNO : Hid (rdF (F + 1) d m T = none) := by show _ = _; rw [rdF_in HC.out HB40.out HH.out, HRL.out]; dsimp only; rw [if_neg (by rw [hb3]; simp)]
         clear hb3 HTN HTY
         go_wp2_with fail
         refine HT.out.mono ?_
         rintro e w8 ⟨rfl, hk8⟩
         have HK8 : Hid (Keeps [gm, gr] w w8) := HS.out.keep.trans hk8 (fun x hx => .inl (by simp at hx; simp [hx]))
         clear hk8
         go_wp2_with fail
         exact ⟨rfl, .inr ⟨HNO.out, rfl⟩, HK8.out⟩
        | true =>
         have HT := Lib.hid (HTY.out hb3)
         have HYES : Hid (rdF (F + 1) d m T = some (.mk k l s v, n, R.drop 1)) := by show _ = _; rw [rdF_in HC.out HB40.out HH.out, HRL.out]; dsimp only; rw [if_pos hb3]
         clear hb3 HTN HTY
         go_wp2_with fail
         refine HT.out.mono ?_
         rintro e w8 ⟨rfl, hr8, hk8⟩
         have HR8 := Lib.hid hr8
         have HK8 := Lib.hid hk8
         have HB8 := Lib.hid (blk_keep HS.out.box hk8 (by simp; omega))
         have HR9 := Lib.hid (blk_keep HS.out.res hk8 (by simp; omega))
         clear hr8 hk8
         obtain ⟨Rb, hRb⟩ : ∃ Rb, w.heap.size = Rb := ⟨_, rfl⟩
         have HRR := Lib.hid hRb
         rw [hRb] at HR9 ⊢
         obtain ⟨⟨b0, b1, b2, b3⟩, _⟩ := four_facts8 HB8.out
         obtain ⟨⟨r0, r1, r2, r3⟩, s0, s1, s2, s3⟩ := four_facts8 HR9.out
         clear hRb
         go_wp2_with fail
         have HR6' := heap_setCell_same _ Rb 0 _ _ (.int .i64 k) HR9.out
         have HR7 := heap_setCell_same _ Rb 1 _ _ (.slice A j c) HR6'
         have HR8' := heap_setCell_same _ Rb 2 _ _ (.string ⟨s.toArray⟩) HR7
         have HR10 := heap_setCell_same _ Rb 3 _ _ (.string ⟨v.toArray⟩) HR8'
         refine bodyPost_ret (results_cell_row rfl _ _ Rb _ #[.int .i64 k, .slice A j c, .string ⟨s.toArray⟩, .string ⟨v.toArray⟩] (0, 0) _ rfl HR10 Tryz.underlying26 rfl (by kernel_rfl)) rfl ?_
         have k9 : Keeps [Rb] w8 ((((w8.setCell ⟨Rb, 0, none⟩ (.int .i64 k)).setCell ⟨Rb, 1, none⟩ (.slice A j c)).setCell ⟨Rb, 2, none⟩ (.string ⟨s.toArray⟩)).setCell ⟨Rb, 3, none⟩ (.string ⟨v.toArray⟩)) := ((((Keeps.refl [Rb] w8).setCell (.inl (by simp)) _).setCell (.inl (by simp)) _).setCell (.inl (by simp)) _).setCell (.inl (by simp)) _
         have hRe := HRR.out
         refine ⟨.inl ⟨_, n, _, ⟨k, A, j, c, s, v⟩, HYES.out, rfl, (HS.out.pass.keep HK8.out (by simp; omega) (by simp; omega)).keep k9 (by simp; omega) (by simp; omega), ?_, HS.out.fin HK8.out (by rw [hRe]; exact k9) hgrw HKB.out HLN.out.1 HLN.out.2⟩, ?_⟩
         ·exact HR8.out.keep k9 (by simp; omega)
         ·exact (HS.out.keep.trans HK8.out (fun x hx => .inl (by simp at hx; simp [hx]))).trans k9 (fun x hx => .inr (by rw [List.mem_singleton.1 hx]; omega))
       | true =>
        rw [hb2] at HSP
        obtain ⟨f2, hf2, hf3, hno2, hyes2⟩ := HI.out.next hb2 HS'.out.nle
        have HIH := Lib.hid (fun X hX he hp hr => IH.out f2 (by omega) (d + 1) n R X hf3 (by have := HC.out.2; omega) HS'.out.nle HS'.out.len hX he hp hr)
        have hw : IntKind.i64.wrap ((d : Int) + 1) = ((d : Int) + 1) := IntWalk.i64_in _ (by have := HC.out.2; omega)
        cases hr2 : rdF f2 (d + 1) n R with
        | none =>
         have HNO : Hid (rdF (F + 1) d m T = none) := by show _ = _; rw [rdF_in HC.out HB40.out HH.out, if_pos HK3.out, hno2 hr2]
         clear hb2 hno2 hyes2
         go_wp2_with fail
         refine HSP.out.mono ?_
         rintro e X ⟨rfl, hkX⟩
         have HS := Lib.hid (HS'.out.grow hkX.drew)
         obtain ⟨g0, _⟩ : X.cell? ⟨gx, 0, none⟩ = some (.func (.func 81) #[] #[.pointer (some ⟨gp, 0, none⟩), .pointer (some ⟨gr, 0, none⟩), .pointer (some ⟨gx, 0, none⟩)]) ∧ True := ⟨((HE.out.keep HS'.out.keep).keep (hkX.mono (by simp))).next, trivial⟩
         have HREC : Hid (∀ Y : Unit, Calls Tryz.prog 81 #[.int .i64 ((d : Int) + 1), .pointer (some ⟨gp, 0, none⟩), .pointer (some ⟨gr, 0, none⟩), .pointer (some ⟨gx, 0, none⟩)] X.drew fun e w' => e = gaveUp8 180 ∧ Keeps [gm, gr] X.drew w') := fun _ => by
          have h9 := HIH.out X.drew (HK0.out.trans HS.out.keep (fun x hx => .inr (by simp at hx; rcases hx with rfl | rfl <;> omega))) (HE.out.keep HS.out.keep) HS.out.pass HS.out.rst
          rw [show ((d + 1 : Nat) : Int) = (d : Int) + 1 by omega] at h9
          refine h9.mono ?_
          rintro e w' ⟨⟨t, n, R, h, h1, _⟩ | ⟨_, h2⟩, h3⟩
          ·rw [hr2] at h1; cases h1
          ·exact ⟨h2, h3⟩
         obtain ⟨⟨q0, q1, q2, q3⟩, p0, p1, p2, p3⟩ := four_facts8 (HS'.out.grow hkX).box
         clear hkX hr2 HIH
         go_wp2_with fail
         refine wp_region_held_drew (S := fun X => X.cell? ⟨gx, 0, none⟩ = some (.func (.func 81) #[] #[.pointer (some ⟨gp, 0, none⟩), .pointer (some ⟨gr, 0, none⟩), .pointer (some ⟨gx, 0, none⟩)])) (by kernel_rfl) g0 ?_
         intro HS2
         refine wpAnyH_take (i := 0) (v := .pointer (some ⟨B, 1, none⟩)) rfl (by kernel_rfl) (by kernel_rfl) (by kernel_rfl) (fun _ _ _ h => h) (Or.inl ⟨by kernel_rfl, ?_⟩) (by first | exact g0 | exact g3 | exact g4 | exact g5 | exact g6) ?_
         ·intro w5 hw5
          obtain hw9 := hw5
          go_simp
         simp only [Act.put, aL]
         refine wpAnyH_take (i := 2) (v := .func (.func 81) #[] #[.pointer (some ⟨gp, 0, none⟩), .pointer (some ⟨gr, 0, none⟩), .pointer (some ⟨gx, 0, none⟩)]) rfl (by kernel_rfl) (by kernel_rfl) (by kernel_rfl) (fun _ _ _ h => h) (Or.inl ⟨by kernel_rfl, ?_⟩) (by first | exact g0 | exact g3 | exact g4 | exact g5 | exact g6) ?_
         ·intro w5 hw5
          obtain hw9 := hw5
          go_simp
         simp only [Act.put, aL]
         refine wpAnyH_take (i := 3) (v := .int .i64 (d : Int)) rfl (by kernel_rfl) (by kernel_rfl) (by kernel_rfl) (fun _ _ _ h => h) (Or.inl ⟨by kernel_rfl, ?_⟩) (by first | exact g0 | exact g3 | exact g4 | exact g5 | exact g6) ?_
         ·intro w5 hw5
          obtain hw9 := hw5
          go_simp
         simp only [Act.put, aL]
         refine wpAnyH_take (i := 4) (v := .int .i64 ((d : Int) + 1)) rfl (by kernel_rfl) (by kernel_rfl) (by kernel_rfl) (fun _ _ _ h => h) (Or.inl ⟨by kernel_rfl, ?_⟩) (by first | exact g0 | exact g3 | exact g4 | exact g5 | exact g6) ?_
         ·intro w5 hw5
          obtain hw9 := hw5
          go_simp
         simp only [Act.put, aL]
         refine wpAnyH_ready (rs := [1, 5]) (by kernel_rfl) (by simp) ?_
         refine AllReadyH.cons rfl (fun K hK => ?_) (AllReadyH.cons rfl (fun K hK => ?_) (AllReadyH.nil))
         ·go_simp
          refine hK.out _ _ (by first | exact g6 | exact g5 | exact g4 | exact g3 | exact g0) (fun HS2 => ?_)
          clear hK K
          try simp only [Act.put, aL]
          refine wpAnyH_ready (rs := [5]) (by kernel_rfl) (by simp) ?_
          refine AllReadyH.cons rfl (fun K hK => ?_) (AllReadyH.nil)
          go_simp
          refine (HREC.out ()).mono ?_
          rintro e w6 ⟨rfl, hk6⟩
          have HK6 := Lib.hid (HS.out.keep.trans' hk6)
          clear hk6
          go_wp2_with fail
          exact ⟨rfl, .inr ⟨HNO.out, rfl⟩, HK6.out⟩
         ·go_simp
          refine (HREC.out ()).mono ?_
          rintro e w6 ⟨rfl, hk6⟩
          have HK6 := Lib.hid (HS.out.keep.trans' hk6)
          clear hk6
          go_wp2_with fail
          exact ⟨rfl, .inr ⟨HNO.out, rfl⟩, HK6.out⟩
        | some x =>
         obtain ⟨t, n1, R1⟩ := x
         have HI2 := Lib.hid (hyes2 t n1 R1 hr2)
         have hrf := rdF_facts _ _ _ _ _ _ _ hr2
         have HN1 : Hid (n < n1 ∧ n1 ≤ 200 ∧ R1.length ≤ 1000000000) := ⟨by omega, by omega, by have := HS'.out.len; omega⟩
         clear hb2 hno2 hyes2 hrf
         go_wp2_with fail
         refine HSP.out.mono ?_
         rintro e X ⟨rfl, hkX⟩
         have HS := Lib.hid (HS'.out.grow hkX.drew)
         obtain ⟨g0, _⟩ : X.cell? ⟨gx, 0, none⟩ = some (.func (.func 81) #[] #[.pointer (some ⟨gp, 0, none⟩), .pointer (some ⟨gr, 0, none⟩), .pointer (some ⟨gx, 0, none⟩)]) ∧ True := ⟨((HE.out.keep HS'.out.keep).keep (hkX.mono (by simp))).next, trivial⟩
         obtain ⟨⟨q0, q1, q2, q3⟩, p0, p1, p2, p3⟩ := four_facts8 (HS'.out.grow hkX).box
         have HREC0 : Hid (Calls Tryz.prog 81 #[.int .i64 ((d : Int) + 1), .pointer (some ⟨gp, 0, none⟩), .pointer (some ⟨gr, 0, none⟩), .pointer (some ⟨gx, 0, none⟩)] X.drew fun e w' => ∃ h, e = .returned (FH.val h) ∧ PassAt w' gm gn n1 180 ∧ RstAt w' gr R1 ∧ (∀ (E : List Nat) Y, (∀ x ∈ E, x < X.drew.heap.size) → Keeps E w' Y → FilAt Y t h) ∧ Keeps [gm, gr] X.drew w') := by
          have h9 := HIH.out X.drew (HK0.out.trans HS.out.keep (fun x hx => .inr (by simp at hx; rcases hx with rfl | rfl <;> omega))) (HE.out.keep HS.out.keep) HS.out.pass HS.out.rst
          rw [show ((d + 1 : Nat) : Int) = (d : Int) + 1 by omega] at h9
          refine h9.mono ?_
          rintro e w' ⟨⟨t', n', R', h, h1, h2, h3, h4, h5⟩ | ⟨h1, _⟩, h6⟩
          ·rw [hr2] at h1; cases h1; exact ⟨h, h2, h3, h4, h5, h6⟩
          ·rw [hr2] at h1; cases h1
         have hj9 : j ≤ 200 := Nat.le_trans HS.out.jn HS.out.nle
         clear hkX hr2 HIH
         go_wp2_with fail
         refine wp_region_held_drew (S := fun X => X.cell? ⟨gx, 0, none⟩ = some (.func (.func 81) #[] #[.pointer (some ⟨gp, 0, none⟩), .pointer (some ⟨gr, 0, none⟩), .pointer (some ⟨gx, 0, none⟩)])) (by kernel_rfl) g0 ?_
         intro HS2
         refine wpAnyH_take (i := 0) (v := .pointer (some ⟨B, 1, none⟩)) rfl (by kernel_rfl) (by kernel_rfl) (by kernel_rfl) (fun _ _ _ h => h) (Or.inl ⟨by kernel_rfl, ?_⟩) (by first | exact g0 | exact g3 | exact g4 | exact g5 | exact g6) ?_
         ·intro w5 hw5
          obtain hw9 := hw5
          go_simp
         simp only [Act.put, aL]
         refine wpAnyH_take (i := 2) (v := .func (.func 81) #[] #[.pointer (some ⟨gp, 0, none⟩), .pointer (some ⟨gr, 0, none⟩), .pointer (some ⟨gx, 0, none⟩)]) rfl (by kernel_rfl) (by kernel_rfl) (by kernel_rfl) (fun _ _ _ h => h) (Or.inl ⟨by kernel_rfl, ?_⟩) (by first | exact g0 | exact g3 | exact g4 | exact g5 | exact g6) ?_
         ·intro w5 hw5
          obtain hw9 := hw5
          go_simp
         simp only [Act.put, aL]
         refine wpAnyH_take (i := 3) (v := .int .i64 (d : Int)) rfl (by kernel_rfl) (by kernel_rfl) (by kernel_rfl) (fun _ _ _ h => h) (Or.inl ⟨by kernel_rfl, ?_⟩) (by first | exact g0 | exact g3 | exact g4 | exact g5 | exact g6) ?_
         ·intro w5 hw5
          obtain hw9 := hw5
          go_simp
         simp only [Act.put, aL]
         refine wpAnyH_take (i := 4) (v := .int .i64 ((d : Int) + 1)) rfl (by kernel_rfl) (by kernel_rfl) (by kernel_rfl) (fun _ _ _ h => h) (Or.inl ⟨by kernel_rfl, ?_⟩) (by first | exact g0 | exact g3 | exact g4 | exact g5 | exact g6) ?_
         ·intro w5 hw5
          obtain hw9 := hw5
          go_simp
         simp only [Act.put, aL]
         refine wpAnyH_ready (rs := [1, 5]) (by kernel_rfl) (by simp) ?_
         refine AllReadyH.cons rfl (fun K hK => ?_) (AllReadyH.cons rfl (fun K hK => ?_) (AllReadyH.nil))
         ·go_simp
          refine hK.out _ _ (by first | exact g6 | exact g5 | exact g4 | exact g3 | exact g0) (fun HS2 => ?_)
          clear hK K
          try simp only [Act.put, aL]
          refine wpAnyH_ready (rs := [5]) (by kernel_rfl) (by simp) ?_
          refine AllReadyH.cons rfl (fun K hK => ?_) (AllReadyH.nil)
          go_simp
          refine HREC0.out.mono ?_
          rintro e w6 ⟨⟨k6, B6, lb6, cb6, s6, v6⟩, rfl, hp6, hr6, hit6, hk6⟩
          unfold FH.val tv
          dsimp only
          have HK6 := Lib.hid hk6
          have HP6 := Lib.hid hp6
          have HR6 := Lib.hid hr6
          have HIT6 := Lib.hid hit6
          clear hp6 hr6 hit6 hk6
          have HB6 : Hid (w6.heap[B]? = some (.cells #[.int .i64 k, .slice A j c, .string ⟨s.toArray⟩, .string ⟨v.toArray⟩] 26 (0, 0))) := blk_keep HS.out.box HK6.out (by simp; omega)
          have HK7 : Hid (Keeps [] w6 (w6.alloc (.cells #[.int .i64 k6, .slice B6 lb6 cb6, .string ⟨s6.toArray⟩, .string ⟨v6.toArray⟩] 26))) := (Keeps.refl [] w6).alloc _
          have HB7 : Hid ((w6.alloc (.cells #[.int .i64 k6, .slice B6 lb6 cb6, .string ⟨s6.toArray⟩, .string ⟨v6.toArray⟩] 26)).heap[B]? = some (.cells #[.int .i64 k, .slice A j c, .string ⟨s.toArray⟩, .string ⟨v.toArray⟩] 26 (0, 0))) := blk_keep HB6.out HK7.out (by simp)
          have HROW : Hid ((w6.alloc (.cells #[.int .i64 k6, .slice B6 lb6 cb6, .string ⟨s6.toArray⟩, .string ⟨v6.toArray⟩] 26)).ownsRow (B + 1) 26 4 (.slice A j c) j (headsF hs)) := own_keep (own_keep HS.out.row HK6.out (fun b hb hm => by have := (HS.out.row.lt b hb).1; simp at hm; omega)) HK7.out (fun b hb hm => by cases hm)
          have HBS : Hid (B + 1 ≤ (w6.alloc (.cells #[.int .i64 k6, .slice B6 lb6 cb6, .string ⟨s6.toArray⟩, .string ⟨v6.toArray⟩] 26)).heap.size) := lt_of_heap HB7.out
          have g3 : w6.cell? ⟨gx, 0, none⟩ = some (.func (.func 81) #[] #[.pointer (some ⟨gp, 0, none⟩), .pointer (some ⟨gr, 0, none⟩), .pointer (some ⟨gx, 0, none⟩)]) := ((HE.out.keep HS.out.keep).keep HK6.out).next
          have g4 : (w6.alloc (.cells #[.int .i64 k6, .slice B6 lb6 cb6, .string ⟨s6.toArray⟩, .string ⟨v6.toArray⟩] 26)).cell? ⟨gx, 0, none⟩ = some (.func (.func 81) #[] #[.pointer (some ⟨gp, 0, none⟩), .pointer (some ⟨gr, 0, none⟩), .pointer (some ⟨gx, 0, none⟩)]) := (((HE.out.keep HS.out.keep).keep HK6.out).keep (HK7.out.mono (by simp))).next
          obtain ⟨⟨y0, y1, y2, y3⟩, yf0, yf1, yf2, yf3⟩ := four_facts8 HB6.out
          obtain ⟨⟨z0, z1, z2, z3⟩, zf0, zf1, zf2, zf3⟩ := four_facts8 HB7.out
          refine hK.out _ _ (by first | exact g3) (fun HS2 => ?_)
          clear hK K
          try simp only [Act.put, aL]
          refine wpAnyH_ready (rs := [6]) (by kernel_rfl) (by simp) ?_
          refine AllReadyH.cons rfl (fun K hK => ?_) (AllReadyH.nil)
          go_simp
          refine hK.out _ _ (by first | exact g6 | exact g5 | exact g4 | exact g3 | exact g0) (fun HS2 => ?_)
          clear hK K
          try simp only [Act.put, aL]
          refine wpAnyH_ready (rs := [7]) (by kernel_rfl) (by simp) ?_
          refine AllReadyH.cons rfl (fun K hK => ?_) (AllReadyH.nil)
          rw [if_pos (by kernel_rfl)]
          refine wp_append_opt (.tmp 20) (.tmp 25) 24 rfl (B + 1) 26 iu _ 4 64 Tryz.underlying24 hiu hzu0 hzu1 hzu2 rfl (by decide) (.slice A j c) j (headsF hs) rfl HROW.out (some ⟨w6.heap.size, 0, none⟩) 1 1 (FH.list ⟨k6, B6, lb6, cb6, s6, v6⟩) rfl rfl (src_one8 w6 ⟨k6, B6, lb6, cb6, s6, v6⟩ _) (by intro u hu; simp [FH.list, tv] at hu; rcases hu with rfl | rfl | rfl | rfl <;> rfl) (by unfold maxLen; omega) (by omega) HBS.out ?_
          intro v8 w8 ho8 hg8 hs8
          obtain ⟨A8, c8, hv8⟩ := own_slice ho8
          subst hv8
          have k8 : Keeps ((Value.slice A j c).ownBlock.toList) (w6.alloc (.cells #[.int .i64 k6, .slice B6 lb6 cb6, .string ⟨s6.toArray⟩, .string ⟨v6.toArray⟩] 26)) w8 := Keeps.of_grown hg8 (fun x hx => .inl (by rw [hx]; simp))
          have hvl : ∀ x ∈ (Value.slice A j c).ownBlock.toList, B + 1 ≤ x := fun x hx => (HS.out.row.lt x (by simpa using hx)).1
          have HX := Lib.hid (HS.out.step hgmw hgnw hgrw HK6.out HP6.out HR6.out HIT6.out HN1.out.1 HN1.out.2.1 HN1.out.2.2 HK7.out ho8 hg8 hs8)
          have HB8 : Hid (w8.heap[B]? = some (.cells #[.int .i64 k, .slice A j c, .string ⟨s.toArray⟩, .string ⟨v.toArray⟩] 26 (0, 0))) := blk_keep HB7.out k8 (fun hm => by have := hvl B hm; omega)
          have g5 : w8.cell? ⟨gx, 0, none⟩ = some (.func (.func 81) #[] #[.pointer (some ⟨gp, 0, none⟩), .pointer (some ⟨gr, 0, none⟩), .pointer (some ⟨gx, 0, none⟩)]) := (k8.cell (p := ⟨gx, 0, none⟩) (lt_of_cell g4) (fun hm => by have := hvl gx hm; omega)).trans g4
          have g6 : (w8.setCell ⟨B, 1, none⟩ (.slice A8 (j + 1) c8)).cell? ⟨gx, 0, none⟩ = some (.func (.func 81) #[] #[.pointer (some ⟨gp, 0, none⟩), .pointer (some ⟨gr, 0, none⟩), .pointer (some ⟨gx, 0, none⟩)]) := (((Keeps.refl [B] w8).setCell (p := ⟨B, 1, none⟩) (.inl (by simp)) _).cell (p := ⟨gx, 0, none⟩) (lt_of_cell g5) (by simp; omega)).trans g5
          clear ho8 hg8 hs8 k8 hvl
          obtain ⟨⟨x0, x1, x2, x3⟩, xf0, xf1, xf2, xf3⟩ := four_facts8 HB8.out
          refine hK.out _ _ (by first | exact g5) (fun HS2 => ?_)
          clear hK K
          simp only [Act.put, aL]
          refine wpAnyH_take (i := 8) (v := .pointer (some ⟨B, 1, none⟩)) rfl (by kernel_rfl) (by kernel_rfl) (by kernel_rfl) (fun _ _ _ h => h) (Or.inl ⟨by kernel_rfl, ?_⟩) (by first | exact g0 | exact g3 | exact g4 | exact g5 | exact g6) ?_
          ·intro w5 hw5
           obtain hw9 := hw5
           go_simp
          simp only [Act.put, aL]
          refine wpAnyH_ready (rs := [9]) (by kernel_rfl) (by simp) ?_
          refine AllReadyH.cons rfl (fun K hK => ?_) (AllReadyH.nil)
          go_simp
          refine hK.out _ _ (by first | exact g6 | exact g5 | exact g4 | exact g3 | exact g0) (fun HS2 => ?_)
          clear hK K
          try simp only [Act.put, aL]
          refine wpAnyH_done (by kernel_rfl) ?_ _
          clear x0 x1 x2 x3 xf0 xf1 xf2 xf3 y0 y1 y2 y3 yf0 yf1 yf2 yf3 z0 z1 z2 z3 zf0 zf1 zf2 zf3 g0 g3 g4 g5 g6 q0 q1 q2 q3 p0 p1 p2 p3 r0 r1
          go_wp2_with fail
          go_roundw
          case rel => exact ⟨A8, j + 1, c8, _, _, n1, R1, HX.out, HI2.out, fun h => absurd HK3.out h⟩
          case measure => rw [HMU.out, cntW_is HX.out.pass]; have := HN1.out; omega
         ·go_simp
          refine HREC0.out.mono ?_
          rintro e w6 ⟨⟨k6, B6, lb6, cb6, s6, v6⟩, rfl, hp6, hr6, hit6, hk6⟩
          unfold FH.val tv
          dsimp only
          have HK6 := Lib.hid hk6
          have HP6 := Lib.hid hp6
          have HR6 := Lib.hid hr6
          have HIT6 := Lib.hid hit6
          clear hp6 hr6 hit6 hk6
          have HB6 : Hid (w6.heap[B]? = some (.cells #[.int .i64 k, .slice A j c, .string ⟨s.toArray⟩, .string ⟨v.toArray⟩] 26 (0, 0))) := blk_keep HS.out.box HK6.out (by simp; omega)
          have HK7 : Hid (Keeps [] w6 (w6.alloc (.cells #[.int .i64 k6, .slice B6 lb6 cb6, .string ⟨s6.toArray⟩, .string ⟨v6.toArray⟩] 26))) := (Keeps.refl [] w6).alloc _
          have HB7 : Hid ((w6.alloc (.cells #[.int .i64 k6, .slice B6 lb6 cb6, .string ⟨s6.toArray⟩, .string ⟨v6.toArray⟩] 26)).heap[B]? = some (.cells #[.int .i64 k, .slice A j c, .string ⟨s.toArray⟩, .string ⟨v.toArray⟩] 26 (0, 0))) := blk_keep HB6.out HK7.out (by simp)
          have HROW : Hid ((w6.alloc (.cells #[.int .i64 k6, .slice B6 lb6 cb6, .string ⟨s6.toArray⟩, .string ⟨v6.toArray⟩] 26)).ownsRow (B + 1) 26 4 (.slice A j c) j (headsF hs)) := own_keep (own_keep HS.out.row HK6.out (fun b hb hm => by have := (HS.out.row.lt b hb).1; simp at hm; omega)) HK7.out (fun b hb hm => by cases hm)
          have HBS : Hid (B + 1 ≤ (w6.alloc (.cells #[.int .i64 k6, .slice B6 lb6 cb6, .string ⟨s6.toArray⟩, .string ⟨v6.toArray⟩] 26)).heap.size) := lt_of_heap HB7.out
          have g3 : w6.cell? ⟨gx, 0, none⟩ = some (.func (.func 81) #[] #[.pointer (some ⟨gp, 0, none⟩), .pointer (some ⟨gr, 0, none⟩), .pointer (some ⟨gx, 0, none⟩)]) := ((HE.out.keep HS.out.keep).keep HK6.out).next
          have g4 : (w6.alloc (.cells #[.int .i64 k6, .slice B6 lb6 cb6, .string ⟨s6.toArray⟩, .string ⟨v6.toArray⟩] 26)).cell? ⟨gx, 0, none⟩ = some (.func (.func 81) #[] #[.pointer (some ⟨gp, 0, none⟩), .pointer (some ⟨gr, 0, none⟩), .pointer (some ⟨gx, 0, none⟩)]) := (((HE.out.keep HS.out.keep).keep HK6.out).keep (HK7.out.mono (by simp))).next
          obtain ⟨⟨y0, y1, y2, y3⟩, yf0, yf1, yf2, yf3⟩ := four_facts8 HB6.out
          obtain ⟨⟨z0, z1, z2, z3⟩, zf0, zf1, zf2, zf3⟩ := four_facts8 HB7.out
          refine hK.out _ _ (by first | exact g3) (fun HS2 => ?_)
          clear hK K
          try simp only [Act.put, aL]
          refine wpAnyH_ready (rs := [1, 6]) (by kernel_rfl) (by simp) ?_
          refine AllReadyH.cons rfl (fun K hK => ?_) (AllReadyH.cons rfl (fun K hK => ?_) (AllReadyH.nil))
          ·go_simp
           refine hK.out _ _ (by first | exact g6 | exact g5 | exact g4 | exact g3 | exact g0) (fun HS2 => ?_)
           clear hK K
           try simp only [Act.put, aL]
           refine wpAnyH_ready (rs := [6]) (by kernel_rfl) (by simp) ?_
           refine AllReadyH.cons rfl (fun K hK => ?_) (AllReadyH.nil)
           go_simp
           refine hK.out _ _ (by first | exact g6 | exact g5 | exact g4 | exact g3 | exact g0) (fun HS2 => ?_)
           clear hK K
           try simp only [Act.put, aL]
           refine wpAnyH_ready (rs := [7]) (by kernel_rfl) (by simp) ?_
           refine AllReadyH.cons rfl (fun K hK => ?_) (AllReadyH.nil)
           rw [if_pos (by kernel_rfl)]
           refine wp_append_opt (.tmp 20) (.tmp 25) 24 rfl (B + 1) 26 iu _ 4 64 Tryz.underlying24 hiu hzu0 hzu1 hzu2 rfl (by decide) (.slice A j c) j (headsF hs) rfl HROW.out (some ⟨w6.heap.size, 0, none⟩) 1 1 (FH.list ⟨k6, B6, lb6, cb6, s6, v6⟩) rfl rfl (src_one8 w6 ⟨k6, B6, lb6, cb6, s6, v6⟩ _) (by intro u hu; simp [FH.list, tv] at hu; rcases hu with rfl | rfl | rfl | rfl <;> rfl) (by unfold maxLen; omega) (by omega) HBS.out ?_
           intro v8 w8 ho8 hg8 hs8
           obtain ⟨A8, c8, hv8⟩ := own_slice ho8
           subst hv8
           have k8 : Keeps ((Value.slice A j c).ownBlock.toList) (w6.alloc (.cells #[.int .i64 k6, .slice B6 lb6 cb6, .string ⟨s6.toArray⟩, .string ⟨v6.toArray⟩] 26)) w8 := Keeps.of_grown hg8 (fun x hx => .inl (by rw [hx]; simp))
           have hvl : ∀ x ∈ (Value.slice A j c).ownBlock.toList, B + 1 ≤ x := fun x hx => (HS.out.row.lt x (by simpa using hx)).1
           have HX := Lib.hid (HS.out.step hgmw hgnw hgrw HK6.out HP6.out HR6.out HIT6.out HN1.out.1 HN1.out.2.1 HN1.out.2.2 HK7.out ho8 hg8 hs8)
           have HB8 : Hid (w8.heap[B]? = some (.cells #[.int .i64 k, .slice A j c, .string ⟨s.toArray⟩, .string ⟨v.toArray⟩] 26 (0, 0))) := blk_keep HB7.out k8 (fun hm => by have := hvl B hm; omega)
           have g5 : w8.cell? ⟨gx, 0, none⟩ = some (.func (.func 81) #[] #[.pointer (some ⟨gp, 0, none⟩), .pointer (some ⟨gr, 0, none⟩), .pointer (some ⟨gx, 0, none⟩)]) := (k8.cell (p := ⟨gx, 0, none⟩) (lt_of_cell g4) (fun hm => by have := hvl gx hm; omega)).trans g4
           have g6 : (w8.setCell ⟨B, 1, none⟩ (.slice A8 (j + 1) c8)).cell? ⟨gx, 0, none⟩ = some (.func (.func 81) #[] #[.pointer (some ⟨gp, 0, none⟩), .pointer (some ⟨gr, 0, none⟩), .pointer (some ⟨gx, 0, none⟩)]) := (((Keeps.refl [B] w8).setCell (p := ⟨B, 1, none⟩) (.inl (by simp)) _).cell (p := ⟨gx, 0, none⟩) (lt_of_cell g5) (by simp; omega)).trans g5
           clear ho8 hg8 hs8 k8 hvl
           obtain ⟨⟨x0, x1, x2, x3⟩, xf0, xf1, xf2, xf3⟩ := four_facts8 HB8.out
           refine hK.out _ _ (by first | exact g5) (fun HS2 => ?_)
           clear hK K
           simp only [Act.put, aL]
           refine wpAnyH_take (i := 8) (v := .pointer (some ⟨B, 1, none⟩)) rfl (by kernel_rfl) (by kernel_rfl) (by kernel_rfl) (fun _ _ _ h => h) (Or.inl ⟨by kernel_rfl, ?_⟩) (by first | exact g0 | exact g3 | exact g4 | exact g5 | exact g6) ?_
           ·intro w5 hw5
            obtain hw9 := hw5
            go_simp
           simp only [Act.put, aL]
           refine wpAnyH_ready (rs := [9]) (by kernel_rfl) (by simp) ?_
           refine AllReadyH.cons rfl (fun K hK => ?_) (AllReadyH.nil)
           go_simp
           refine hK.out _ _ (by first | exact g6 | exact g5 | exact g4 | exact g3 | exact g0) (fun HS2 => ?_)
           clear hK K
           try simp only [Act.put, aL]
           refine wpAnyH_done (by kernel_rfl) ?_ _
           clear x0 x1 x2 x3 xf0 xf1 xf2 xf3 y0 y1 y2 y3 yf0 yf1 yf2 yf3 z0 z1 z2 z3 zf0 zf1 zf2 zf3 g0 g3 g4 g5 g6 q0 q1 q2 q3 p0 p1 p2 p3 r0 r1
           go_wp2_with fail
           go_roundw
           case rel => exact ⟨A8, j + 1, c8, _, _, n1, R1, HX.out, HI2.out, fun h => absurd HK3.out h⟩
           case measure => rw [HMU.out, cntW_is HX.out.pass]; have := HN1.out; omega
          ·go_simp
           refine hK.out _ _ (by first | exact g6 | exact g5 | exact g4 | exact g3 | exact g0) (fun HS2 => ?_)
           clear hK K
           try simp only [Act.put, aL]
           refine wpAnyH_ready (rs := [1]) (by kernel_rfl) (by simp) ?_
           refine AllReadyH.cons rfl (fun K hK => ?_) (AllReadyH.nil)
           go_simp
           refine hK.out _ _ (by first | exact g6 | exact g5 | exact g4 | exact g3 | exact g0) (fun HS2 => ?_)
           clear hK K
           try simp only [Act.put, aL]
           refine wpAnyH_ready (rs := [7]) (by kernel_rfl) (by simp) ?_
           refine AllReadyH.cons rfl (fun K hK => ?_) (AllReadyH.nil)
           rw [if_pos (by kernel_rfl)]
           refine wp_append_opt (.tmp 20) (.tmp 25) 24 rfl (B + 1) 26 iu _ 4 64 Tryz.underlying24 hiu hzu0 hzu1 hzu2 rfl (by decide) (.slice A j c) j (headsF hs) rfl HROW.out (some ⟨w6.heap.size, 0, none⟩) 1 1 (FH.list ⟨k6, B6, lb6, cb6, s6, v6⟩) rfl rfl (src_one8 w6 ⟨k6, B6, lb6, cb6, s6, v6⟩ _) (by intro u hu; simp [FH.list, tv] at hu; rcases hu with rfl | rfl | rfl | rfl <;> rfl) (by unfold maxLen; omega) (by omega) HBS.out ?_
           intro v8 w8 ho8 hg8 hs8
           obtain ⟨A8, c8, hv8⟩ := own_slice ho8
           subst hv8
           have k8 : Keeps ((Value.slice A j c).ownBlock.toList) (w6.alloc (.cells #[.int .i64 k6, .slice B6 lb6 cb6, .string ⟨s6.toArray⟩, .string ⟨v6.toArray⟩] 26)) w8 := Keeps.of_grown hg8 (fun x hx => .inl (by rw [hx]; simp))
           have hvl : ∀ x ∈ (Value.slice A j c).ownBlock.toList, B + 1 ≤ x := fun x hx => (HS.out.row.lt x (by simpa using hx)).1
           have HX := Lib.hid (HS.out.step hgmw hgnw hgrw HK6.out HP6.out HR6.out HIT6.out HN1.out.1 HN1.out.2.1 HN1.out.2.2 HK7.out ho8 hg8 hs8)
           have HB8 : Hid (w8.heap[B]? = some (.cells #[.int .i64 k, .slice A j c, .string ⟨s.toArray⟩, .string ⟨v.toArray⟩] 26 (0, 0))) := blk_keep HB7.out k8 (fun hm => by have := hvl B hm; omega)
           have g5 : w8.cell? ⟨gx, 0, none⟩ = some (.func (.func 81) #[] #[.pointer (some ⟨gp, 0, none⟩), .pointer (some ⟨gr, 0, none⟩), .pointer (some ⟨gx, 0, none⟩)]) := (k8.cell (p := ⟨gx, 0, none⟩) (lt_of_cell g4) (fun hm => by have := hvl gx hm; omega)).trans g4
           have g6 : (w8.setCell ⟨B, 1, none⟩ (.slice A8 (j + 1) c8)).cell? ⟨gx, 0, none⟩ = some (.func (.func 81) #[] #[.pointer (some ⟨gp, 0, none⟩), .pointer (some ⟨gr, 0, none⟩), .pointer (some ⟨gx, 0, none⟩)]) := (((Keeps.refl [B] w8).setCell (p := ⟨B, 1, none⟩) (.inl (by simp)) _).cell (p := ⟨gx, 0, none⟩) (lt_of_cell g5) (by simp; omega)).trans g5
           clear ho8 hg8 hs8 k8 hvl
           obtain ⟨⟨x0, x1, x2, x3⟩, xf0, xf1, xf2, xf3⟩ := four_facts8 HB8.out
           refine hK.out _ _ (by first | exact g5) (fun HS2 => ?_)
           clear hK K
           simp only [Act.put, aL]
           refine wpAnyH_take (i := 8) (v := .pointer (some ⟨B, 1, none⟩)) rfl (by kernel_rfl) (by kernel_rfl) (by kernel_rfl) (fun _ _ _ h => h) (Or.inl ⟨by kernel_rfl, ?_⟩) (by first | exact g0 | exact g3 | exact g4 | exact g5 | exact g6) ?_
           ·intro w5 hw5
            obtain hw9 := hw5
            go_simp
           simp only [Act.put, aL]
           refine wpAnyH_ready (rs := [9]) (by kernel_rfl) (by simp) ?_
           refine AllReadyH.cons rfl (fun K hK => ?_) (AllReadyH.nil)
           go_simp
           refine hK.out _ _ (by first | exact g6 | exact g5 | exact g4 | exact g3 | exact g0) (fun HS2 => ?_)
           clear hK K
           try simp only [Act.put, aL]
           refine wpAnyH_done (by kernel_rfl) ?_ _
           clear x0 x1 x2 x3 xf0 xf1 xf2 xf3 y0 y1 y2 y3 yf0 yf1 yf2 yf3 z0 z1 z2 z3 zf0 zf1 zf2 zf3 g0 g3 g4 g5 g6 q0 q1 q2 q3 p0 p1 p2 p3 r0 r1
           go_wp2_with fail
           go_roundw
           case rel => exact ⟨A8, j + 1, c8, _, _, n1, R1, HX.out, HI2.out, fun h => absurd HK3.out h⟩
           case measure => rw [HMU.out, cntW_is HX.out.pass]; have := HN1.out; omega
      ·have HRL : Hid ((if k ≤ 3 then rdL F (d + 1) (m + 1) R0 else some ([], m + 1, R0)) = some (l, n, R)) := by
        obtain ⟨h1, h2, h3⟩ := HK9.out hk3
        show _ = _
        rw [if_neg hk3, h1, h2, h3]
       have HS := HS'
       have hk4 : decide (k ≤ 3) = false := by simpa using hk3
       go_wp2_with fail
       clear q0 q1 q2 q3 p0 p1 p2 p3 r0 r1 HS' hk4
       have HTN := Lib.hid (take8_no gr R [41] _ HS.out.rst HS.out.len (by decide))
       have HTY := Lib.hid (take8_yes gr R [41] _ HS.out.rst HS.out.len (by decide))
       unfold tv at HTN HTY
       cases hb3 : begP [41] R with
       | false =>
        have HT := Lib.hid (HTN.out hb3)
        have HNO : Hid (rdF (F + 1) d m T = none) := by show _ = _; rw [rdF_in HC.out HB40.out HH.out, HRL.out]; dsimp only; rw [if_neg (by rw [hb3]; simp)]
        clear hb3 HTN HTY
        go_wp2_with fail
        refine HT.out.mono ?_
        rintro e w8 ⟨rfl, hk8⟩
        have HK8 : Hid (Keeps [gm, gr] w w8) := HS.out.keep.trans hk8 (fun x hx => .inl (by simp at hx; simp [hx]))
        clear hk8
        go_wp2_with fail
        exact ⟨rfl, .inr ⟨HNO.out, rfl⟩, HK8.out⟩
       | true =>
        have HT := Lib.hid (HTY.out hb3)
        have HYES : Hid (rdF (F + 1) d m T = some (.mk k l s v, n, R.drop 1)) := by show _ = _; rw [rdF_in HC.out HB40.out HH.out, HRL.out]; dsimp only; rw [if_pos hb3]
        clear hb3 HTN HTY
        go_wp2_with fail
        refine HT.out.mono ?_
        rintro e w8 ⟨rfl, hr8, hk8⟩
        have HR8 := Lib.hid hr8
        have HK8 := Lib.hid hk8
        have HB8 := Lib.hid (blk_keep HS.out.box hk8 (by simp; omega))
        have HR9 := Lib.hid (blk_keep HS.out.res hk8 (by simp; omega))
        clear hr8 hk8
        obtain ⟨Rb, hRb⟩ : ∃ Rb, w.heap.size = Rb := ⟨_, rfl⟩
        have HRR := Lib.hid hRb
        rw [hRb] at HR9 ⊢
        obtain ⟨⟨b0, b1, b2, b3⟩, _⟩ := four_facts8 HB8.out
        obtain ⟨⟨r0, r1, r2, r3⟩, s0, s1, s2, s3⟩ := four_facts8 HR9.out
        clear hRb
        go_wp2_with fail
        have HR6' := heap_setCell_same _ Rb 0 _ _ (.int .i64 k) HR9.out
        have HR7 := heap_setCell_same _ Rb 1 _ _ (.slice A j c) HR6'
        have HR8' := heap_setCell_same _ Rb 2 _ _ (.string ⟨s.toArray⟩) HR7
        have HR10 := heap_setCell_same _ Rb 3 _ _ (.string ⟨v.toArray⟩) HR8'
        refine bodyPost_ret (results_cell_row rfl _ _ Rb _ #[.int .i64 k, .slice A j c, .string ⟨s.toArray⟩, .string ⟨v.toArray⟩] (0, 0) _ rfl HR10 Tryz.underlying26 rfl (by kernel_rfl)) rfl ?_
        have k9 : Keeps [Rb] w8 ((((w8.setCell ⟨Rb, 0, none⟩ (.int .i64 k)).setCell ⟨Rb, 1, none⟩ (.slice A j c)).setCell ⟨Rb, 2, none⟩ (.string ⟨s.toArray⟩)).setCell ⟨Rb, 3, none⟩ (.string ⟨v.toArray⟩)) := ((((Keeps.refl [Rb] w8).setCell (.inl (by simp)) _).setCell (.inl (by simp)) _).setCell (.inl (by simp)) _).setCell (.inl (by simp)) _
        have hRe := HRR.out
        refine ⟨.inl ⟨_, n, _, ⟨k, A, j, c, s, v⟩, HYES.out, rfl, (HS.out.pass.keep HK8.out (by simp; omega) (by simp; omega)).keep k9 (by simp; omega) (by simp; omega), ?_, HS.out.fin HK8.out (by rw [hRe]; exact k9) hgrw HKB.out HLN.out.1 HLN.out.2⟩, ?_⟩
        ·exact HR8.out.keep k9 (by simp; omega)
        ·exact (HS.out.keep.trans HK8.out (fun x hx => .inl (by simp at hx; simp [hx]))).trans k9 (fun x hx => .inr (by rw [List.mem_singleton.1 hx]; omega))
end Go.Proofs.YtbfebljahjmjfaaGreatDoor
