/- Texts of one proof, laid together: U61. -/
import Derived.Test.YthgpjlmdllihmaaGreatM45
/- StoreCopies, where the arguments are not too great to be laid together. -/
namespace Go.Proofs.YthgpjlmdllihmaaGreat
open Go.RowKit Go.Shelf Go.Maps
set_option linter.unusedVariables false
set_option linter.unusedSimpArgs false
set_option maxRecDepth 100000

set_option maxHeartbeats 8000000 in
theorem copies_any (size : Int) (A B : Option Addr) (n m ca cb : Nat) (la lb : List Act4) (w : World) (h1 : I64 size) (hA : Acts4 w A n la) (hB : Acts4 w B m lb) (hroom : (n + m) * 56 ≤ 140737488355328) :
    Calls Tryz.prog 4 #[.int .i64 size, .slice A n ca, .slice B m cb] w fun e w' => e = .returned (.bool true) ∧ Keeps [] w w' := by
  have HK := Lib.hid (fun X => known4_any X)
  have hla := hA.len
  have hlb := hB.len
  have HA := Lib.hid hA
  have HB := Lib.hid hB
  obtain ⟨ia, hia, ha0, ha1, ha2⟩ := info_parts act_info
  clear hA hB
  by_cases q1 : size < 256
  · go_enter Tryz.func4, Tryz.ntmps4
    go_wp2_with fail
    refine (HK.out _).mono ?_
    rintro e w1 ⟨rfl, hk⟩
    have HK1 := Lib.hid hk
    clear hk
    go_wp2_with fail
    go_ret
    exact ⟨rfl, HK1.out⟩
  by_cases q2 : 10000 < size
  · go_enter Tryz.func4, Tryz.ntmps4
    go_wp2_with fail
    refine (HK.out _).mono ?_
    rintro e w1 ⟨rfl, hk⟩
    have HK1 := Lib.hid hk
    clear hk
    go_wp2_with fail
    go_ret
    exact ⟨rfl, HK1.out⟩
  obtain ⟨z, rfl⟩ := Int.eq_ofNat_of_zero_le (show 0 ≤ size by omega)
  have hz1 : 256 ≤ z := by omega
  have hz2 : z ≤ 10000 := by omega
  go_enter Tryz.func4, Tryz.ntmps4
  go_wp2_with (first
    | (at_builtin; refine wpList_append_w (by kernel_rfl) (.const (.slice none 0 0)) (.tmp 23) 22 rfl w.heap.size 27 ia _ 5 56 Tryz.underlying22 hia ha0 ha1 ha2 rfl (by decide) (.slice none 0 0) 0 [] rfl (World.ownsRow_nil _ _ _ _) A n ca (actCells la) rfl (by rw [actCells_len, hla]) HA.out.src (actCells_one la) (by unfold maxLen; omega) (by omega) (Nat.le_refl _) ?_; intro v1 w1 ho hg hs; rw [Nat.zero_add, List.nil_append] at ho; obtain ⟨VA, vc, hv⟩ := own_slice ho; subst hv; have HO1 := Lib.hid ho; have HK1 : Hid (Keeps [] w w1) := Keeps.of_grown hg (by simp [Value.ownBlock]); clear ho hg hs)
    | (at_builtin; refine wpList_append_w (by kernel_rfl) (.tmp 24) (.tmp 25) 22 rfl w.heap.size 27 ia _ 5 56 Tryz.underlying22 hia ha0 ha1 ha2 rfl (by decide) (.slice VA n vc) n (actCells la) rfl HO1.out B m cb (actCells lb) rfl (by rw [actCells_len, hlb]) (HB.out.grow HK1.out).src (actCells_one lb) (by unfold maxLen; omega) (by omega) HK1.out.size ?_; intro v2 w2 ho hg hs; rw [← actCells_app] at ho; obtain ⟨WA, wc, hv⟩ := own_slice ho; subst hv; have HO2 := Lib.hid ho; have HK2 := Lib.hid (keeps_ownS HO1.out HK1.out hg); clear ho hg hs))
  have HF := Lib.hid (few_is WA (n + m) wc (la ++ lb) w2 (acts_of_own HO2.out (by simp [hla, hlb]) (fun x hx => by
    rcases List.mem_append.1 hx with hx | hx
    · exact (HA.out.ins x hx).grow HK2.out
    · exact (HB.out.ins x hx).grow HK2.out)) (by omega))
  clear HO1 HO2
  refine HF.out.mono ?_
  rintro e w3 ⟨b, rfl, hb30, hk1⟩
  have HK3 := Lib.hid (HK2.out.trans' hk1)
  clear hk1 HF HK1 HK2
  cases b
  · go_wp2_with fail
    refine (HK.out _).mono ?_
    rintro e w4 ⟨rfl, hk⟩
    have HK4 := Lib.hid (HK3.out.trans' hk)
    clear hk
    go_wp2_with fail
    go_ret
    exact ⟨rfl, HK4.out⟩
  have h30 := hb30 rfl
  clear hb30
  go_wp2_with fail
  refine (new_yes z w3 (by omega) (by omega)).mono ?_
  rintro e w4 ⟨k, rfl, hd, e1, e2, e3, e4, e5, e6, e7, e8⟩
  have hc := calm_new hz1 e1 e2 e3 e4
  have hlen : k.S.length = z := by rw [e1, List.length_replicate]
  have HO := Lib.hid (open_any k w4 hd hc.holds)
  have HN := Lib.hid e7
  have HK4 := Lib.hid e8
  have HC := Lib.hid hc
  clear hd e1 e2 e3 e7 e8 hc
  go_wp2_with fail
  refine HO.out.mono ?_
  rintro e w5 ⟨p, m0, rfl, hs, hm3, hp, hk⟩
  have HI0 := Lib.hid (freeI_new hs HC.out hlen e4 e5 e6 HN.out HK4.out hm3 hp hk)
  have HA3 := Lib.hid (HA.out.grow HK3.out)
  have HB3 := Lib.hid (HB.out.grow HK3.out)
  generalize hkp : k.p = kp at *
  clear hs hm3 hk HO HC HN e4 e5 e6 hlen hp HK4 HA HB
  go_wp2_with fail
  go_loopw [11] (fun i wr => ∃ j : Nat, i = .int .i64 (j : Int) ∧ j ≤ n ∧ Hid (∃ s k T, FreeI w3 p kp z j wr s k T)) (fun i _ => n - (intOf i).toNat)
  case atStart => exact ⟨0, rfl, Nat.zero_le _, _, _, _, HI0.out⟩
  case round =>
    obtain ⟨j, rfl, hj, HI⟩ := hrel
    obtain ⟨s, k, T, hi⟩ := HI.out
    by_cases hlt : j < n
    · have hx : la[j]? = some (la[j]'(by omega)) := List.getElem?_eq_getElem (by omega)
      obtain ⟨b, o, rfl, ho⟩ := (HA3.out.grow hi.keep).at_ j _ hx
      generalize la[j]'(by omega) = x at *
      have c2 := ho.c2
      have HP := Lib.hid (sput_any x.A x.l.length x.c x.l hi.st hi.calm hi.br ho.in_.len ho.in_.chgs (by have := hi.done; omega))
      have hsp := hi.sp
      rw [hsp] at HP
      have HI1 := Lib.hid hi
      clear ho hx hi HI
      go_wp2_with fail
      refine HP.out.mono ?_
      rintro e w6 ⟨nn, s', k', T', rfl, hpu⟩
      have HI2 := Lib.hid (HI1.out.put (Keeps.refl [] wr) hpu).2.2
      clear hpu HP HI1
      go_wp2_with fail
      go_roundw
      case rel => exact ⟨j + 1, by go_num, by omega, s', k', T', HI2.out⟩
      case measure => simp [intOf]; omega
    · obtain rfl : j = n := by omega
      have hsp := hi.sp
      have hkk := hi.kkp
      have HA4 := Lib.hid (all_any hi.st)
      rw [hsp] at HA4
      have HI1 := Lib.hid hi
      clear hi HI
      go_wp2_with fail
      refine HA4.out.mono ?_
      rintro e w6 ⟨Aw, cw, rfl, hpw, _, hkw⟩
      have HI6 := Lib.hid (HI1.out.grow hkw)
      have PW6 := Lib.hid hpw
      have hW0 : k.W.length ≤ 1000000 := by
        have := HI1.out.calm.w
        have h2 : k.dat.W.length = k.W.length := by simp [Dk.dat]
        rw [this] at h2
        simp at h2
        omega
      have HCP := Lib.hid (scopy_ok HI6.out.st.st HI6.out.st.disk HI6.out.st.dp hW0)
      rw [hsp] at HCP
      clear hpw hkw HA4 HI1 hW0
      go_wp2_with fail
      refine HCP.out.mono ?_
      rintro e w7 ⟨p5, k5, rfl, hst5, hd5, he5, hf5, ha5, hp5, hn5, hk5⟩
      have HC7 := Lib.hid (HI6.out.copy hst5 hd5 he5 hf5 hp5 hn5 hk5)
      have HP7 := Lib.hid (HI6.out.apart he5 hf5 hp5 hk5)
      have HE7 : Hid (FreeI.ps ⟨p5, s.at_, s.turn, s.m, k5.p, s.br⟩ k5 T = FreeI.ps s k T) := by show FreeI.ps _ _ _ = _; unfold FreeI.ps; rw [he5]
      generalize hkp5 : k5.p = kp5 at *
      clear hst5 hd5 he5 hf5 ha5 hp5 hn5 hk5 HCP
      go_wp2_with fail
      go_loopw [14] (fun i wr => ∃ j2 : Nat, i = .int .i64 (j2 : Int) ∧ j2 ≤ m ∧ Hid (∃ s' k' T', FreeI w3 p5 kp5 z (j + j2) wr s' k' T' ∧ ApartI w6 s.m wr s' k' ∧ FreeI.ps s' k' T' = (FreeI.ps s k T).puts ((lb.take j2).map Act4.l))) (fun i _ => m - (intOf i).toNat)
      case atStart => exact ⟨0, rfl, Nat.zero_le _, _, _, _, HC7.out, HP7.out, HE7.out⟩
      case round =>
        obtain ⟨j2, rfl, hj2, HI⟩ := hrel
        obtain ⟨s1, k1, T1, hi, hap, hps⟩ := HI.out
        by_cases hlt2 : j2 < m
        · have hx : lb[j2]? = some (lb[j2]'(by omega)) := List.getElem?_eq_getElem (by omega)
          obtain ⟨b, o, rfl, ho⟩ := (HB3.out.grow hi.keep).at_ j2 _ hx
          generalize lb[j2]'(by omega) = x at *
          have c2 := ho.c2
          have HP := Lib.hid (sput_any x.A x.l.length x.c x.l hi.st hi.calm hi.br ho.in_.len ho.in_.chgs (by have := hi.done; omega))
          have hsp5 := hi.sp
          rw [hsp5] at HP
          have HI1 := Lib.hid hi
          have HAP := Lib.hid hap
          have HPS := Lib.hid hps
          have HX := Lib.hid hx
          clear ho hx hi HI hap hps
          go_wp2_with fail
          refine HP.out.mono ?_
          rintro e w8 ⟨nn, s', k', T', rfl, hpu⟩
          have HI2 := Lib.hid (HI1.out.put (Keeps.refl [] _) hpu).2.2
          have HAP2 := Lib.hid (HAP.out.put hpu)
          have HPS2 := Lib.hid (hpu.puts HPS.out HX.out)
          clear hpu HP HI1 HAP HPS HX
          go_wp2_with fail
          go_roundw
          case rel => exact ⟨j2 + 1, by go_num, by omega, s', k', T', HI2.out, HAP2.out, HPS2.out⟩
          case measure => simp [intOf]; omega
        · obtain rfl : j2 = m := by omega
          have HI8 := Lib.hid (HI6.out.grow hap.keep)
          have HCF := Lib.hid hi
          have HAP := Lib.hid hap
          have HPS := Lib.hid hps
          have hsp5 := hi.sp
          have hkk5 := hi.kkp
          have HA8 := Lib.hid (all_any HI8.out.st)
          rw [hsp] at HA8
          have PW8 := Lib.hid (PW6.out.grow hap.keep)
          clear hi HI hap hps HC7 HP7 HE7
          go_wp2_with fail
          refine HA8.out.mono ?_
          rintro e w9 ⟨A9, c9, rfl, hp9, _, hk9⟩
          have htl : T.length ≤ 9223372036854775807 := by have := HI6.out.st.good.few; omega
          have HR9 := Lib.hid (rsame_is A9 Aw T.length T.length c9 cw T T w9 hp9 (PW8.out.grow hk9) htl htl)
          rw [decide_eq_true (rfl : T = T)] at HR9
          have K9 := Lib.hid hk9
          clear hp9 hk9 HA8 htl
          go_wp2_with fail
          refine HR9.out.mono ?_
          rintro e w10 ⟨rfl, hk10⟩
          have K10 := Lib.hid (K9.out.trans' hk10)
          have HI10 := Lib.hid (HI8.out.grow (K9.out.trans' hk10))
          have HF10 : Hid (FirstI w10 (s.p :: k.all) w10 s k) := ⟨Keeps.refl _ _, List.mem_cons_self .., fun b hb => .inl (List.mem_cons_of_mem _ hb)⟩
          clear hk10 HR9
          go_wp2_with fail
          obtain ⟨wo, hwo⟩ : ∃ wo : World, wo = wr := ⟨_, rfl⟩
          rw [← hwo] at HI8 HCF HAP PW8 K9 K10
          clear hwo
          go_loopw [15] (fun i wr => ∃ j3 : Nat, i = .int .i64 (j3 : Int) ∧ j3 ≤ j2 ∧ Hid (∃ s' k' T', FreeI w3 p kp z (j + j3) wr s' k' T' ∧ FirstI w10 (s.p :: k.all) wr s' k' ∧ FreeI.ps s' k' T' = (FreeI.ps s k T).puts ((lb.take j3).map Act4.l))) (fun i _ => j2 - (intOf i).toNat)
          case atStart => exact ⟨0, rfl, Nat.zero_le _, _, _, _, HI10.out, HF10.out, rfl⟩
          case round =>
            obtain ⟨j3, rfl, hj3, HI⟩ := hrel
            obtain ⟨s2, k2, T2, hi, hfi, hps⟩ := HI.out
            by_cases hlt3 : j3 < j2
            · have hx : lb[j3]? = some (lb[j3]'(by omega)) := List.getElem?_eq_getElem (by omega)
              obtain ⟨b, o, rfl, ho⟩ := (HB3.out.grow hi.keep).at_ j3 _ hx
              generalize lb[j3]'(by omega) = x at *
              have c2 := ho.c2
              have HP := Lib.hid (sput_any x.A x.l.length x.c x.l hi.st hi.calm hi.br ho.in_.len ho.in_.chgs (by have := hi.done; omega))
              have hsp2 := hi.sp
              rw [hsp2] at HP
              have HI1 := Lib.hid hi
              have HFI := Lib.hid hfi
              have HPS1 := Lib.hid hps
              have HX := Lib.hid hx
              clear ho hx hi HI hfi hps
              go_wp2_with fail
              refine HP.out.mono ?_
              rintro e w11 ⟨nn, s', k', T', rfl, hpu⟩
              have HI2 := Lib.hid (HI1.out.put (Keeps.refl [] _) hpu).2.2
              have HFI2 := Lib.hid (HFI.out.put hpu)
              have HPS2 := Lib.hid (hpu.puts HPS1.out HX.out)
              clear hpu HP HI1 HFI HPS1 HX
              go_wp2_with fail
              go_roundw
              case rel => exact ⟨j3 + 1, by go_num, by omega, s', k', T', HI2.out, HFI2.out, HPS2.out⟩
              case measure => simp [intOf]; omega
            · obtain rfl : j3 = j2 := by omega
              have heq : FreeI.ps s2 k2 T2 = FreeI.ps s1 k1 T1 := by rw [hps, HPS.out]
              have hT : T2 = T1 := congrArg PS.T heq
              have hD : k2.dat = k1.dat := congrArg PS.d heq
              have HM := Lib.hid (HAP.out.beside HCF.out.st HI6.out.st K10.out hfi)
              have HS := Lib.hid hi
              have hsp2 := hi.sp
              have hkk2 := hi.kkp
              have HA11 := Lib.hid (all_any hi.st)
              rw [hsp2] at HA11
              subst hT
              clear hi HI hfi hps heq
              go_wp2_with fail
              refine HA11.out.mono ?_
              rintro e w12 ⟨A12, c12, rfl, hp12, _, hk12⟩
              have K12 := Lib.hid hk12
              have P12 := Lib.hid hp12
              have HT12 := Lib.hid (all_any (HM.out.grow hk12))
              rw [hsp5] at HT12
              clear hp12 hk12 HA11
              go_wp2_with fail
              refine HT12.out.mono ?_
              rintro e w13 ⟨A13, c13, rfl, hp13, _, hk13⟩
              have K13 := Lib.hid (K12.out.trans' hk13)
              have htl : T2.length ≤ 9223372036854775807 := by have := HS.out.st.good.few; omega
              have HR13 := Lib.hid (rsame_is A12 A13 T2.length T2.length c12 c13 T2 T2 w13 (P12.out.grow hk13) hp13 htl htl)
              rw [decide_eq_true (rfl : T2 = T2)] at HR13
              clear hp13 hk13 P12 HT12 htl
              go_wp2_with fail
              refine HR13.out.mono ?_
              rintro e w14 ⟨rfl, hk14⟩
              have K14 := Lib.hid (K13.out.trans' hk14)
              have HS14 := Lib.hid (HS.out.grow K14.out)
              have HM14 := Lib.hid (HM.out.grow K14.out)
              have HD1 := Lib.hid (disk_ok HS14.out.st.st)
              have HD2 := Lib.hid (disk_ok HM14.out.st)
              rw [hsp2, HS14.out.st.dp, hkk2] at HD1
              rw [hsp5, HM14.out.dp, hkk5] at HD2
              have hW2 : k2.W.length ≤ 1000000 := by
                have := HS.out.calm.w
                have h2 : k2.dat.W.length = k2.W.length := by simp [Dk.dat]
                rw [this] at h2
                simp at h2
                omega
              have HSM := Lib.hid (same_any k2 k1 w14 HS14.out.st.disk HM14.out.disk hW2 (by
                have h2 : k1.dat.W.length = k1.W.length := by simp [Dk.dat]
                have h3 : k2.dat.W.length = k2.W.length := by simp [Dk.dat]
                rw [← hD, h3] at h2
                omega))
              rw [hkk2, hkk5, hD, sameDat_self] at HSM
              clear hk14 HR13 hW2
              go_wp2_with fail
              refine HD1.out.mono ?_
              rintro e w15 ⟨rfl, rfl⟩
              go_wp2_with fail
              refine HD2.out.mono ?_
              rintro e w15 ⟨rfl, rfl⟩
              go_wp2_with fail
              refine HSM.out.mono ?_
              rintro e w15 ⟨rfl, hb15⟩
              have K15 : Hid (Keeps [] w14 w15) := Keeps.of_below hb15
              clear hb15 HSM HD1 HD2
              go_wp2_with fail
              refine (HK.out _).mono ?_
              rintro e w16 ⟨rfl, hk16⟩
              have K16 := Lib.hid (K15.out.trans' hk16)
              clear hk16
              go_wp2_with fail
              go_ret
              exact ⟨rfl, HK3.out.trans' (HS14.out.keep.trans' K16.out)⟩

end Go.Proofs.YthgpjlmdllihmaaGreat
