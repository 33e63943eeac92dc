/- Texts of one proof, laid together: U65. -/
import Derived.Test.YthgpjlmdllihmaaGreatM48
import Derived.Deep.RegionHeldLaw
/- StoreStops, where the argument is not too great to be laid together: what it does. -/
namespace Go.Proofs.YthgpjlmdllihmaaGreat
open Go.RowKit Go.Shelf Go.Maps
set_option linter.unusedVariables false
set_option linter.unusedSimpArgs false
set_option maxRecDepth 100000

theorem src_act (w : World) (x : Act4) : Src (w.alloc (.cells #[.int .i64 x.kind, .int .i64 x.n, .slice x.A x.l.length x.c, .int .i64 x.keep, .int .i64 x.torn] 27)) (some ⟨w.heap.size, 0, none⟩) 1 (actCells [x]) := by
  refine ⟨(fun h => by cases h), fun ad hA j u hu => ?_⟩
  injection hA with hA
  subst hA
  rw [add_at, World.cell?_alloc_new]
  match j, hu with
  | 0, hu => injection hu with hu; subst hu; rfl
  | 1, hu => injection hu with hu; subst hu; rfl
  | 2, hu => injection hu with hu; subst hu; rfl
  | 3, hu => injection hu with hu; subst hu; rfl
  | 4, hu => injection hu with hu; subst hu; rfl
theorem five_alloc (w : World) (x : Act4) (X : World) (hk : Keeps [] (w.alloc (.cells #[.int .i64 x.kind, .int .i64 x.n, .slice x.A x.l.length x.c, .int .i64 x.keep, .int .i64 x.torn] 27)) X) :
    X.cell? ⟨w.heap.size, 0, none⟩ = some (.int .i64 x.kind) ∧ X.cell? ⟨w.heap.size, 1, none⟩ = some (.int .i64 x.n) ∧ X.cell? ⟨w.heap.size, 2, none⟩ = some (.slice x.A x.l.length x.c) ∧ X.cell? ⟨w.heap.size, 3, none⟩ = some (.int .i64 x.keep) ∧ X.cell? ⟨w.heap.size, 4, none⟩ = some (.int .i64 x.torn) :=
  (five_facts (blk_keep (heap_alloc_new w _) hk (by simp))).1

set_option maxHeartbeats 16000000 in
theorem stops_yes (z : Nat) (A : Option Addr) (n ca : Nat) (la : List Act4) (x : Act4) (w : World) (hz1 : 256 ≤ z) (hz2 : z ≤ 10000) (hn8 : n ≤ 8) (hA : Acts4 w A n la) (hx : Act4In w x) :
    Calls Tryz.prog 3 #[.int .i64 (z : Int), .slice A n ca, .agg #[.int .i64 x.kind, .int .i64 x.n, .slice x.A x.l.length x.c, .int .i64 x.keep, .int .i64 x.torn]] w fun e w' => e = .returned (.bool true) ∧ Keeps [] w w' := by
  have HK := Lib.hid (fun X => known4_any X)
  have hla := hA.len
  obtain ⟨ia, hia, ha0, ha1, ha2⟩ := info_parts act_info
  have q1d : decide ((z : Int) < 256) = false := decide_eq_false (by omega)
  have q2d : decide ((10000 : Int) < (z : Int)) = false := decide_eq_false (by omega)
  have q3d : decide ((8 : Int) < (n : Int)) = false := decide_eq_false (by omega)
  have mixed : Tryz.prog.follows .mixedOrders = true := by kernel_rfl
  have HF := Lib.hid (five_alloc w x)
  have HW : Hid (Keeps [] w (w.alloc (.cells #[.int .i64 x.kind, .int .i64 x.n, .slice x.A x.l.length x.c, .int .i64 x.keep, .int .i64 x.torn] 27))) := (Keeps.refl [] w).alloc _
  generalize hW0 : w.alloc (.cells #[.int .i64 x.kind, .int .i64 x.n, .slice x.A x.l.length x.c, .int .i64 x.keep, .int .i64 x.torn] 27) = W0 at HW HF
  have HA := Lib.hid (hA.grow HW.out)
  have HX := Lib.hid (hx.grow HW.out)
  have y0 := HF.out _ (Keeps.refl [] W0)
  clear hA hx
  go_enter Tryz.func3, Tryz.ntmps3
  go_wp2_with fail
  go_region_held_law (fun w' => w'.cell? ⟨w.heap.size, 0, none⟩ = some (.int .i64 x.kind) ∧ w'.cell? ⟨w.heap.size, 1, none⟩ = some (.int .i64 x.n) ∧ w'.cell? ⟨w.heap.size, 2, none⟩ = some (.slice x.A x.l.length x.c) ∧ w'.cell? ⟨w.heap.size, 3, none⟩ = some (.int .i64 x.keep) ∧ w'.cell? ⟨w.heap.size, 4, none⟩ = some (.int .i64 x.torn)) (first | exact y0 | exact y1 | exact y2 | exact y3 | exact HF.out _ (by repeat (first | exact Keeps.refl [] _ | exact HK1.out | refine Keeps.drew ?_ | refine Keeps.alloc ?_ _)) | go_keep)
    (first
    | (refine step_append_w (by kernel_rfl) (.const (.slice none 0 0)) (.tmp 35) 22 rfl W0.heap.size 27 ia _ 5 56 Tryz.underlying22 hia ha0 ha1 ha2 rfl (by decide) (.slice none 0 0) 0 [] rfl (World.ownsRow_nil _ _ _ _) A n ca (actCells la) rfl (by rw [actCells_len, hla]) (HA.out.grow (by repeat (first | exact Keeps.refl [] _ | refine Keeps.drew ?_ | refine Keeps.alloc ?_ _))).src (actCells_one la) (by unfold maxLen; omega) (by omega) (by simp) ?_; intro v1 w1 ho hg hs; have HG1 := Lib.hid (Keeps.of_grown (bs := []) hg (by simp [Value.ownBlock])); rw [Nat.zero_add, List.nil_append] at ho; obtain ⟨VA, vc, hv⟩ := own_slice ho; subst hv; have HO1 := Lib.hid ho; have kk := Keeps.trans' (a := W0) (bs := []) (by repeat (first | exact Keeps.refl [] _ | refine Keeps.drew ?_ | refine Keeps.alloc ?_ _)) HG1.out; have HK1 := Lib.hid kk; have y1 := HF.out w1 kk; clear ho hg hs kk)
    | (refine step_append_w (by kernel_rfl) (.tmp 36) (.tmp 38) 22 rfl W0.heap.size 27 ia _ 5 56 Tryz.underlying22 hia ha0 ha1 ha2 rfl (by decide) (.slice VA n vc) n (actCells la) rfl (HO1.out.alloc _) (some ⟨w1.heap.size, 0, none⟩) 1 1 (actCells [x]) rfl rfl (src_act w1 x) (actCells_one [x]) (by unfold maxLen; omega) (by omega) (by have := HK1.out.size; simp; omega) ?_; intro v2 w2 ho hg hs; rw [← actCells_app] at ho; obtain ⟨WA, wc, hv⟩ := own_slice ho; subst hv; have HO2 := Lib.hid ho; have HK2 := Lib.hid (keeps_ownS (HO1.out.alloc _) (HK1.out.alloc _) hg); have y2 := HF.out w2 HK2.out; clear ho hg hs)
    | (refine step_append_w (by kernel_rfl) (.tmp 36) (.tmp 38) 22 rfl W0.heap.size 27 ia _ 5 56 Tryz.underlying22 hia ha0 ha1 ha2 rfl (by decide) (.slice VA n vc) n (actCells la) rfl HO1.out (some ⟨W0.heap.size, 0, none⟩) 1 1 (actCells [x]) rfl rfl ((src_act W0.drew x).grow HG1.out) (actCells_one [x]) (by unfold maxLen; omega) (by omega) HK1.out.size ?_; intro v2 w2 ho hg hs; rw [← actCells_app] at ho; obtain ⟨WA, wc, hv⟩ := own_slice ho; subst hv; have HO2 := Lib.hid ho; have HK2 := Lib.hid (keeps_ownS HO1.out HK1.out hg); have y2 := HF.out w2 HK2.out; clear ho hg hs)
    | (go_at_call 5; refine (few_is WA (n + 1) wc (la ++ [x]) _ (acts_of_own HO2.out (by simp [hla]) (fun y hy => (by rcases List.mem_append.1 hy with hy | hy; (exact (HA.out.ins y hy).grow HK2.out); (rw [List.mem_singleton.1 hy]; exact HX.out.grow HK2.out)))) (by omega)).mono ?_; rintro e w3 ⟨b, rfl, hb30, hk3⟩; have HK3 := Lib.hid (HK2.out.trans' hk3); have y3 := HF.out w3 HK3.out; have HB30 := Lib.hid hb30; clear hk3 hb30))
  all_goals (
    clear y3 y2 HO2 HK2 HO1 HG1 HK1 y1 y0
    cases b
    · go_wp2_with fail
      refine (HK.out _).mono ?_
      rintro e w4 ⟨rfl, hk⟩
      have HK4 := Lib.hid (HW.out.trans' (HK3.out.trans' hk))
      clear hk
      go_wp2_with fail
      go_ret
      exact ⟨rfl, HK4.out⟩
    have h30 := HB30.out rfl
    clear HB30
    go_wp2_with fail
    refine (new_yes z w3 (by omega) (by omega)).mono ?_
    rintro e w4 ⟨k, rfl, hd, e1, e2, e3, e4, e5, e6, e7, e8⟩
    have hc := calm_new hz1 e1 e2 e3 e4
    have hlen : k.S.length = z := by rw [e1, List.length_replicate]
    have HO := Lib.hid (open_any k w4 hd hc.holds)
    have HN := Lib.hid e7
    have HK4 := Lib.hid e8
    have HC := Lib.hid hc
    clear hd e1 e2 e3 e7 e8 hc
    go_wp2_with fail
    refine HO.out.mono ?_
    rintro e w5 ⟨p, m0, rfl, hs, hm3, hp, hk⟩
    have HI0 := Lib.hid (freeI_new hs HC.out hlen e4 e5 e6 HN.out HK4.out hm3 hp hk)
    have HA3 := Lib.hid (HA.out.grow HK3.out)
    have HX3 := Lib.hid (HX.out.grow HK3.out)
    have HF3 := Lib.hid (fun X (hk : Keeps [] w3 X) => HF.out X (HK3.out.trans' hk))
    generalize hkp : k.p = kp at *
    clear hs hm3 hk HO HC HN e4 e5 e6 hlen hp HK4 HA HX HF
    go_wp2_with fail
    go_loopw [11] (fun i wr => ∃ j : Nat, i = .int .i64 (j : Int) ∧ j ≤ n ∧ Hid (∃ s k T, FreeI w3 p kp z j wr s k T)) (fun i _ => n - (intOf i).toNat)
    case atStart => exact ⟨0, rfl, Nat.zero_le _, _, _, _, HI0.out⟩
    case round =>
      obtain ⟨j, rfl, hj, HI⟩ := hrel
      obtain ⟨s, k, T, hi⟩ := HI.out
      by_cases hlt : j < n
      · have hx : la[j]? = some (la[j]'(by omega)) := List.getElem?_eq_getElem (by omega)
        obtain ⟨b, o, rfl, ho⟩ := (HA3.out.grow hi.keep).at_ j _ hx
        generalize la[j]'(by omega) = y at *
        have c2 := ho.c2
        have HP := Lib.hid (sput_any y.A y.l.length y.c y.l hi.st hi.calm hi.br ho.in_.len ho.in_.chgs (by have := hi.done; omega))
        have hsp := hi.sp
        rw [hsp] at HP
        have HI1 := Lib.hid hi
        clear ho hx hi HI
        go_wp2_with fail
        refine HP.out.mono ?_
        rintro e w6 ⟨nn, s', k', T', rfl, hpu⟩
        have HI2 := Lib.hid (HI1.out.put (Keeps.refl [] wr) hpu).2.2
        clear hpu HP HI1
        go_wp2_with fail
        go_roundw
        case rel => exact ⟨j + 1, by go_num, by omega, s', k', T', HI2.out⟩
        case measure => simp [intOf]; omega
      · obtain rfl : j = n := by omega
        have hsp := hi.sp
        have hkk := hi.kkp
        have HA4 := Lib.hid (all_any hi.st)
        rw [hsp] at HA4
        have HI1 := Lib.hid hi
        clear hi HI
        go_wp2_with fail
        refine HA4.out.mono ?_
        rintro e w6 ⟨Aw, cw, rfl, hpw, _, hkw⟩
        have HI6 := Lib.hid (HI1.out.grow hkw)
        have PW6 := Lib.hid hpw
        have HW0 : Hid (k.W.length ≤ 1000000) := by
          have := HI1.out.calm.w
          have h2 : k.dat.W.length = k.W.length := by simp [Dk.dat]
          rw [this] at h2
          simp at h2
          show _ ≤ _
          omega
        have HCP := Lib.hid (scopy_ok HI6.out.st.st HI6.out.st.disk HI6.out.st.dp HW0.out)
        rw [hsp] at HCP
        clear hpw hkw HA4 HI1
        go_wp2_with fail
        refine HCP.out.mono ?_
        rintro e w7 ⟨p5, k5, rfl, hst5, hd5, he5, hf5, ha5, hp5, hn5, hk5⟩
        have hc7 := HI6.out.copy hst5 hd5 he5 hf5 hp5 hn5 hk5
        have HP7 := Lib.hid (HI6.out.apart he5 hf5 hp5 hk5)
        have HI7 := Lib.hid (HI6.out.grow hk5)
        have PW7 := Lib.hid (PW6.out.grow hk5)
        have hx7 := HX3.out.grow hc7.keep
        obtain ⟨y0, y1, y2, y3, y4⟩ := HF3.out w7 hc7.keep
        have HP := Lib.hid (sput_any x.A x.l.length x.c x.l hc7.st hc7.calm hc7.br hx7.len hx7.chgs (by have := hc7.done; omega))
        have hsp7 := hc7.sp
        rw [hsp7] at HP
        have HC7 := Lib.hid hc7
        clear hst5 hd5 he5 hf5 ha5 hp5 hn5 hk5 HCP hc7 hx7
        go_wp2_with fail
        refine HP.out.mono ?_
        rintro e w8 ⟨nn, s8, k8, T8, rfl, hpu⟩
        obtain ⟨hnn, hT8, hi8⟩ := HC7.out.put (Keeps.refl [] w7) hpu
        have HP8 := Lib.hid (HP7.out.put hpu)
        have HI8 := Lib.hid hi8
        clear hpu HP hi8 y0 y1 y2 y3 y4
        by_cases hN0 : nn = 0
        · subst hN0
          have HN0 := Lib.hid hnn.symm
          have hT8' : T8 = behindT T x.l := by rw [hT8]; unfold putR; rw [if_pos hnn.symm]
          subst hT8'
          have HK8 : Hid (Keeps [] w6 w8) := HP8.out.keep
          have hsp8 := HI8.out.sp
          have HT8 := Lib.hid (all_any HI8.out.st)
          rw [hsp8] at HT8
          clear hnn hT8
          go_wp2_with fail
          refine HT8.out.mono ?_
          rintro e w9 ⟨An, cn, rfl, hpn, _, hkn⟩
          have HI9 := Lib.hid (HI6.out.grow (HK8.out.trans' hkn))
          have PW9 := Lib.hid (PW6.out.grow (HK8.out.trans' hkn))
          have PN9 := Lib.hid hpn
          have HC8B := Lib.hid HI8.out.st.good.few
          clear hpn hkn HT8 HC7 HP7 HI7 PW7 PW6 HP8 HI8
          go_wp2_with fail
          have hrise := HI9.out.st.tab.rising
          have HRI := Lib.hid hrise
          have hok : chgsOk x.l = true := by
            rcases h : chgsOk x.l with _ | _
            · have h9 := HN0.out
              unfold putN at h9
              rw [if_pos h] at h9
              cases h9
            · rfl
          have HFEW := Lib.hid (chgsOk_few hok)
          have HG1 := Lib.hid HI9.out.st.good.few
          clear hrise hok
          go_loopw [15] (fun i wr => ∃ j2 : Nat, i = .int .i64 (j2 : Int) ∧ j2 ≤ 12 ∧ Hid (Keeps [] w9 wr)) (fun i _ => 12 - (intOf i).toNat)
          case atStart => exact ⟨0, rfl, Nat.zero_le _, Keeps.refl _ _⟩
          case round =>
            obtain ⟨j2, rfl, hj2, HKR⟩ := hrel
            by_cases hlt2 : j2 < 12
            · have HI := Lib.hid (HI9.out.grow HKR.out)
              have HCP := Lib.hid (scopy_ok HI.out.st.st HI.out.st.disk HI.out.st.dp HW0.out)
              rw [hsp] at HCP
              go_wp2_with fail
              refine HCP.out.mono ?_
              rintro e w10 ⟨p6, k6, rfl, hst6, hd6, he6, hf6, ha6, hp6, hn6, hk6⟩
              have hc6 := HI.out.copy hst6 hd6 he6 hf6 hp6 hn6 hk6
              have hap6 := HI.out.apart he6 hf6 hp6 hk6
              generalize hs6 : (⟨p6, s.at_, s.turn, s.m, k6.p, s.br⟩ : St) = s6 at *
              have hsp6 := hc6.sp
              have HD6 := Lib.hid (disk_ok hc6.st.st)
              rw [hsp6, hc6.st.dp] at HD6
              have HAR := Lib.hid (arm_any k6 (j2 : Int) w10 hc6.st.disk (by omega))
              rw [show max (j2 : Int) (-1) = (j2 : Int) by omega] at HAR
              have HC6 := Lib.hid hc6
              have HP6 := Lib.hid hap6
              generalize hkp6 : k6.p = kp6 at *
              clear hst6 hd6 he6 hf6 ha6 hp6 hn6 hk6 HCP hc6 hap6 hs6
              go_wp2_with fail
              refine HD6.out.mono ?_
              rintro e w11 ⟨rfl, rfl⟩
              go_wp2_with fail
              refine HAR.out.mono ?_
              rintro e w11 ⟨rfl, hda, hka⟩
              rw [← hkp6] at hka
              have hsa := HC6.out.st.arm hda hka
              have hca : Calm (k6.nums k6.lim (j2 : Int) k6.done).dat s6.at_ s6.turn T := ⟨HC6.out.calm.w, HC6.out.calm.l, HC6.out.calm.holds, HC6.out.calm.lim⟩
              have hkr : Keeps [] wr w11 := HP6.out.keep.trans hka (fun b hb => .inr (HP6.out.all b (by rw [List.mem_singleton.1 hb]; exact fp_sub (by simp [Dk.fp]))))
              obtain ⟨k6a, hk6a⟩ : ∃ k6a, k6.nums k6.lim (j2 : Int) k6.done = k6a := ⟨_, rfl⟩
              have hfp6 : ∀ b ∈ k6a.fp, wr.heap.size ≤ b := fun b hb => HP6.out.all b (fp_sub (by rw [← hk6a] at hb; exact hb))
              have e1 : k6a.S.length = z := by rw [← hk6a]; exact HC6.out.len
              have e2 : k6a.lim = k6a.S.length := by rw [e1, ← hk6a]; exact HC6.out.lim
              have e3 : k6a.p = kp6 := by rw [← hk6a]; exact hkp6
              have e4 : k6a.done ≤ 4 * j := by rw [← hk6a]; exact HC6.out.done
              rw [hk6a] at hsa hca
              have hK911 := HKR.out.trans' hkr
              have hw11 := HI9.out.keep.trans' hK911
              have hx11 := HX3.out.grow hw11
              obtain ⟨y0, y1, y2, y3, y4⟩ := HF3.out w11 hw11
              have HP := Lib.hid (sput_any x.A x.l.length x.c x.l hsa hca HC6.out.br hx11.len hx11.chgs (by omega))
              rw [hsp6] at HP
              have HKW := Lib.hid hkr
              have HS6 := Lib.hid hsa
              clear hda hka hsa hca hkr hw11 hx11 hK911 HAR HD6 hk6a
              go_wp2_with fail
              refine HP.out.mono ?_
              rintro e w12 ⟨nn, s7, k7, T7, rfl, hpu⟩
              obtain ⟨hcs, hcl, at2, turn2, T2, hT2, hT20, hcalm⟩ := hpu.stops (by rw [e1]; exact HN0.out) e2 x.keep x.torn
              have hsp7 : s7.p = p6 := hpu.p.trans hsp6
              have hkp7 : k7.p = kp6 := hpu.kp.trans e3
              have hk12 : Keeps [] wr w12 := HKW.out.trans hpu.keeps (fun b hb => .inr (by
                rcases List.mem_cons.1 hb with hb | hb
                · rw [hb]; exact HP6.out.pl
                · exact hfp6 b hb))
              have hw12 := HI9.out.keep.trans' (HKR.out.trans' hk12)
              obtain ⟨x0, x1, x2, x3, x4⟩ := HF3.out w12 hw12
              have HST := Lib.hid hpu.st
              have HD7 := Lib.hid (fun X (hk : Keeps [] w12 X) => disk_ok (hpu.st.grow hk).st)
              rw [hsp7, hpu.st.dp, hkp7] at HD7
              have hx12 := HX3.out.grow hw12
              have HCR := Lib.hid (fun X (hk : Keeps [] w12 X) => crash_dat k7 k7.dat x.keep x.torn X (hpu.st.disk.grow hk) rfl hx12.i3 hx12.i4 (by have := hpu.wl; simp [Dk.dat]; omega))
              rw [hkp7] at HCR
              have HK12 := Lib.hid hk12
              have HCS := Lib.hid hcs
              have HCL := Lib.hid (hcl.trans e1)
              have HT2 := Lib.hid hT2
              have HT20 := Lib.hid hT20
              have HCM := Lib.hid hcalm
              have hfull : (k7.dat.crash x.keep x.torn).lim = z := by
                show k7.lim = z
                rw [hpu.lim, e2, e1]
              have HFU := Lib.hid hfull
              clear hpu HP hcs hcl hT2 hT20 hcalm hk12 hw12 hx12 hfull y0 y1 y2 y3 y4
              have hF12 := Lib.hid (fun X (hk : Keeps [] w12 X) => HF3.out X ((HI9.out.keep.trans' (HKR.out.trans' HK12.out)).trans' hk))
              go_wp2_with fail
              go_region_held3 (fun w' => w'.cell? ⟨w.heap.size, 3, none⟩ = some (.int .i64 x.keep) ∧ w'.cell? ⟨w.heap.size, 4, none⟩ = some (.int .i64 x.torn)) (first | exact ⟨x3, x4⟩ | exact z34 | exact (hF12.out _ (by repeat (first | exact Keeps.refl [] _ | exact HK13.out | refine Keeps.drew ?_))).2.2.2 | go_keep)
                (first
                | (go_at_call 12; refine (HD7.out _ (by repeat (first | exact Keeps.refl [] _ | refine Keeps.drew ?_))).mono ?_; rintro e w13 ⟨rfl, rfl⟩)
                | (go_at_call 14; refine (HCR.out _ (by repeat (first | exact Keeps.refl [] _ | refine Keeps.drew ?_))).mono ?_; rintro e w13 ⟨k8, rfl, hd8, he8, hn8, hk13⟩; have HN8 := Lib.hid hn8; have HK13 := Lib.hid (Keeps.trans' (a := w12) (bs := []) (by repeat (first | exact Keeps.refl [] _ | refine Keeps.drew ?_)) hk13); have HD8 := Lib.hid hd8; have HE8 := Lib.hid he8; have z34 := (hF12.out w13 HK13.out).2.2.2; clear hd8 he8 hn8 hk13))
              all_goals (
                have e8 := HE8.out
                have hc8 : Calm k8.dat at2 turn2 T2 := by rw [e8]; exact HCM.out
                have l8 : k8.S.length = z := by
                  have h9 := HCL.out
                  rw [← e8] at h9
                  exact h9
                have m8 : k8.lim = z := by
                  have h9 := HFU.out
                  rw [← e8] at h9
                  exact h9
                have f8 : k8.left = -1 := by
                  have h9 : k8.dat.left = -1 := by rw [e8]; rfl
                  exact h9
                have d8 : k8.done = 0 := by
                  have h9 : k8.dat.done = 0 := by rw [e8]; rfl
                  exact h9
                have HO8 := Lib.hid (open_any k8 w13 HD8.out hc8.holds)
                have HC8 := Lib.hid hc8
                have HL8 := Lib.hid (And.intro l8 (And.intro m8 (And.intro f8 d8)))
                clear e8 hc8 l8 m8 f8 d8 z34 x0 x1 x2 x3 x4
                go_wp2_with fail
                refine HO8.out.mono ?_
                rintro e w14 ⟨p9, m9, rfl, hs9, hm9, hp9, hk14⟩
                have HS9 := Lib.hid hs9
                have HK14 := Lib.hid (HK13.out.trans' hk14)
                have HT9 := Lib.hid (all_any hs9)
                have HP9 := Lib.hid hp9
                clear hs9 hm9 hp9 hk14 HO8
                go_wp2_with fail
                refine HT9.out.mono ?_
                rintro e w15 ⟨A15, c15, rfl, hp15, hA15, hk15⟩
                have HA15 := Lib.hid hA15
                have HK15 := Lib.hid (HK14.out.trans' hk15)
                have P15 := Lib.hid hp15
                have HS15 := Lib.hid (HS9.out.grow hk15)
                have PN15 := Lib.hid (PN9.out.grow (HKR.out.trans' (HK12.out.trans' HK15.out)))
                have PW15 := Lib.hid (PW9.out.grow (HKR.out.trans' (HK12.out.trans' HK15.out)))
                have G2 := Lib.hid HS9.out.good.few
                have G7 := Lib.hid HST.out.good.few
                have GB : Hid ((behindT T x.l).length ≤ 200) := HC8B.out
                have RS := Lib.hid (fun X (hk : Keeps [] w15 X) => rsame_is A15 An T2.length (behindT T x.l).length c15 cn T2 (behindT T x.l) X (P15.out.grow hk) (PN15.out.grow hk) (by have := G2.out; omega) (by have := GB.out; omega))
                have RW := Lib.hid (fun X (hk : Keeps [] w15 X) => rsame_is A15 Aw T2.length T.length c15 cw T2 T X (P15.out.grow hk) (PW15.out.grow hk) (by have := G2.out; omega) (by have := HG1.out; omega))
                clear hp15 hk15 HT9 hA15
                have hsep : ∀ X, Keeps [] w15 X → ∀ Y, Keeps (p9 :: k8.fp) X Y → Keeps [] w12 Y := fun X hk Y hy => (HK15.out.trans' hk).trans hy (fun b hb => .inr (by
                  rcases List.mem_cons.1 hb with hb | hb
                  · rw [hb]; have := HP9.out; have := HK13.out.size; omega
                  · exact HN8.out b (fp_sub hb)))
                have HSEP := Lib.hid hsep
                have hN2 : putN T2 x.l false (k8.S.length / 2) = 0 := by
                  rw [HL8.out.1]
                  rcases HT2.out with h | h
                  · rw [h]; exact HN0.out
                  · rw [h]; exact putN_twice HRI.out HN0.out
                have hx12 : ∀ X, Keeps [] w12 X → Act4In X x := fun X hk => HX3.out.grow ((HI9.out.keep.trans' (HKR.out.trans' HK12.out)).trans' hk)
                have HX12 := Lib.hid hx12
                have HZS : Hid (∀ a, A15 = some a → a.block ∉ p9 :: k8.fp) := fun a ha hm => by
                  have h1 := HA15.out a ha
                  rcases List.mem_cons.1 hm with hm | hm
                  · have := HS9.out.st.lt; rw [hm] at h1; have h3 : p9 < w14.heap.size := this; omega
                  · have := HS9.out.disk.lt _ (fp_sub hm); omega
                have HPA := Lib.hid (fun X (hk : Keeps [] w15 X) => put_again x.A x.l.length x.c x.l (HS15.out.grow hk) HC8.out rfl (hx12 X (HK15.out.trans' hk)).len (hx12 X (HK15.out.trans' hk)).chgs HL8.out.2.2.2 HL8.out.2.2.1 (HL8.out.2.1.trans HL8.out.1.symm) hN2 (P15.out.grow hk) HZS.out)
                have HRI2 : Hid (Rising T2) := by
                  rcases HT2.out with h | h
                  · rw [h]; exact HRI.out
                  · rw [h]; exact rising_behind HRI.out
                have GB2 : Hid ((behindT T2 x.l).length ≤ 200) := by
                  rcases HT2.out with h | h
                  · rw [h]; exact GB.out
                  · rw [h, behindT_twice HRI.out]; exact GB.out
                have HO7 := Lib.hid (fun X (hk : Keeps [] w12 X) => all_any (HST.out.grow hk))
                rw [hsp7] at HO7
                clear hsep hN2 hx12 e1 e2 e3 e4 hsp7 hkp7
                rcases HCS.out with ⟨hz, h7⟩ | ⟨hz, h7⟩
                · subst hz
                  have h2 := HT20.out rfl
                  rw [decide_eq_true h2] at RS
                  generalize decide (T2 = T) = bq at RW
                  clear h2 h7
                  go_wp2_with fail
                  refine (RS.out _ (Keeps.refl [] _)).mono ?_
                  rintro e w16 ⟨rfl, hk16⟩
                  have K16 := Lib.hid hk16
                  clear hk16
                  go_wp2_with fail
                  refine (RW.out _ K16.out).mono ?_
                  rintro e w17 ⟨rfl, hk17⟩
                  have K17 := Lib.hid (K16.out.trans' hk17)
                  clear hk17
                  cases bq
                  · go_wp2_with fail
                    refine (RS.out _ K17.out).mono ?_
                    rintro e w18 ⟨rfl, hk18⟩
                    have KL15 := Lib.hid (K17.out.trans' hk18)
                    have KL := Lib.hid (HK15.out.trans' KL15.out)
                    clear hk18
                    go_wp2_with fail
                    go_region_held3 (fun w' => w'.cell? ⟨w.heap.size, 2, none⟩ = some (.slice x.A x.l.length x.c)) (first | exact y5 | exact y6 | exact y7 | exact y8 | exact (hF12.out _ (by repeat (first | exact Keeps.refl [] _ | exact KL.out | refine Keeps.drew ?_))).2.2.1 | go_keep)
                      (first
                      | (go_at_call 9; refine (HPA.out _ (by repeat (first | exact Keeps.refl [] _ | exact KL15.out | refine Keeps.drew ?_))).mono ?_; rintro e w20 ⟨rfl, hz20, hk20, hall⟩; have kk := HSEP.out _ (by repeat (first | exact Keeps.refl [] _ | exact KL15.out | refine Keeps.drew ?_)) w20 hk20; have HZ := Lib.hid hz20; have HAL := Lib.hid hall; have HKK := Lib.hid kk; have y5 := (hF12.out w20 kk).2.2.1; clear hz20 hk20 hall kk)
                      | (go_at_call 10; refine (HAL.out _ (by repeat (first | exact Keeps.refl [] _ | refine Keeps.drew ?_))).mono ?_; rintro e w21 ⟨B, d, rfl, hB, hk21⟩; have HB := Lib.hid hB; have kk := Keeps.trans' (a := w20) (bs := []) (by repeat (first | exact Keeps.refl [] _ | refine Keeps.drew ?_)) hk21; have HK21 := Lib.hid kk; have y6 := (hF12.out w21 (HKK.out.trans' kk)).2.2.1; clear hB hk21 kk)
                      | (go_at_call 16; refine (rbehind_is A15 T2.length c15 T2 x.A x.l.length x.c x.l _ (HZ.out.grow (by repeat (first | exact Keeps.refl [] _ | exact HK21.out | refine Keeps.drew ?_))) (HX12.out _ (by repeat (first | exact Keeps.refl [] _ | exact HKK.out.trans' HK21.out | refine Keeps.drew ?_))).chgs (by have := G2.out; omega) (by have := HFEW.out; omega) HRI2.out).mono ?_; rintro e w22 ⟨B2, m2, d2, rfl, hB2, _, hk22⟩; have HB2 := Lib.hid hB2; have kk := Keeps.trans' (a := w21) (bs := []) (by repeat (first | exact Keeps.refl [] _ | refine Keeps.drew ?_)) hk22; have HK22 := Lib.hid kk; have y7 := (hF12.out w22 (HKK.out.trans' (HK21.out.trans' kk))).2.2.1; clear hB2 hk22 kk)
                      | (go_at_call 15; refine (rsame_self B B2 (behindT T2 x.l).length m2 d d2 (behindT T2 x.l) _ (HB.out.grow (by repeat (first | exact Keeps.refl [] _ | exact HK22.out | refine Keeps.drew ?_))) (HB2.out.grow (by repeat (first | exact Keeps.refl [] _ | refine Keeps.drew ?_))) (by have := GB2.out; omega)).mono ?_; rintro e w23 ⟨rfl, hk23⟩; have HK23 := Lib.hid (Keeps.trans' (a := w22) (bs := []) (by repeat (first | exact Keeps.refl [] _ | refine Keeps.drew ?_)) hk23); have y8 := (hF12.out w23 (HKK.out.trans' (HK21.out.trans' (HK22.out.trans' HK23.out)))).2.2.1; clear hk23))
                    all_goals (
                      have HKE := Lib.hid (HKR.out.trans' (HK12.out.trans' (HKK.out.trans' (HK21.out.trans' (HK22.out.trans' HK23.out)))))
                      clear y5 y6 y7 HZ HAL HB HB2 HK21 HK22 HK23 HKK
                      go_wp2_with fail
                      go_roundw
                      case rel => exact ⟨j2 + 1, by go_num, by omega, HKE.out⟩
                      case measure => simp [intOf]; omega)
                  · have KL15 := K17
                    have KL := Lib.hid (HK15.out.trans' KL15.out)
                    go_wp2_with fail
                    go_region_held3 (fun w' => w'.cell? ⟨w.heap.size, 2, none⟩ = some (.slice x.A x.l.length x.c)) (first | exact y5 | exact y6 | exact y7 | exact y8 | exact (hF12.out _ (by repeat (first | exact Keeps.refl [] _ | exact KL.out | refine Keeps.drew ?_))).2.2.1 | go_keep)
                      (first
                      | (go_at_call 9; refine (HPA.out _ (by repeat (first | exact Keeps.refl [] _ | exact KL15.out | refine Keeps.drew ?_))).mono ?_; rintro e w20 ⟨rfl, hz20, hk20, hall⟩; have kk := HSEP.out _ (by repeat (first | exact Keeps.refl [] _ | exact KL15.out | refine Keeps.drew ?_)) w20 hk20; have HZ := Lib.hid hz20; have HAL := Lib.hid hall; have HKK := Lib.hid kk; have y5 := (hF12.out w20 kk).2.2.1; clear hz20 hk20 hall kk)
                      | (go_at_call 10; refine (HAL.out _ (by repeat (first | exact Keeps.refl [] _ | refine Keeps.drew ?_))).mono ?_; rintro e w21 ⟨B, d, rfl, hB, hk21⟩; have HB := Lib.hid hB; have kk := Keeps.trans' (a := w20) (bs := []) (by repeat (first | exact Keeps.refl [] _ | refine Keeps.drew ?_)) hk21; have HK21 := Lib.hid kk; have y6 := (hF12.out w21 (HKK.out.trans' kk)).2.2.1; clear hB hk21 kk)
                      | (go_at_call 16; refine (rbehind_is A15 T2.length c15 T2 x.A x.l.length x.c x.l _ (HZ.out.grow (by repeat (first | exact Keeps.refl [] _ | exact HK21.out | refine Keeps.drew ?_))) (HX12.out _ (by repeat (first | exact Keeps.refl [] _ | exact HKK.out.trans' HK21.out | refine Keeps.drew ?_))).chgs (by have := G2.out; omega) (by have := HFEW.out; omega) HRI2.out).mono ?_; rintro e w22 ⟨B2, m2, d2, rfl, hB2, _, hk22⟩; have HB2 := Lib.hid hB2; have kk := Keeps.trans' (a := w21) (bs := []) (by repeat (first | exact Keeps.refl [] _ | refine Keeps.drew ?_)) hk22; have HK22 := Lib.hid kk; have y7 := (hF12.out w22 (HKK.out.trans' (HK21.out.trans' kk))).2.2.1; clear hB2 hk22 kk)
                      | (go_at_call 15; refine (rsame_self B B2 (behindT T2 x.l).length m2 d d2 (behindT T2 x.l) _ (HB.out.grow (by repeat (first | exact Keeps.refl [] _ | exact HK22.out | refine Keeps.drew ?_))) (HB2.out.grow (by repeat (first | exact Keeps.refl [] _ | refine Keeps.drew ?_))) (by have := GB2.out; omega)).mono ?_; rintro e w23 ⟨rfl, hk23⟩; have HK23 := Lib.hid (Keeps.trans' (a := w22) (bs := []) (by repeat (first | exact Keeps.refl [] _ | refine Keeps.drew ?_)) hk23); have y8 := (hF12.out w23 (HKK.out.trans' (HK21.out.trans' (HK22.out.trans' HK23.out)))).2.2.1; clear hk23))
                    all_goals (
                      have HKE := Lib.hid (HKR.out.trans' (HK12.out.trans' (HKK.out.trans' (HK21.out.trans' (HK22.out.trans' HK23.out)))))
                      clear y5 y6 y7 HZ HAL HB HB2 HK21 HK22 HK23 HKK
                      go_wp2_with fail
                      go_roundw
                      case rel => exact ⟨j2 + 1, by go_num, by omega, HKE.out⟩
                      case measure => simp [intOf]; omega)
                · subst hz
                  rw [h7] at HO7
                  clear h7
                  by_cases h2 : T2 = T
                  · rw [decide_eq_true h2] at RW
                    clear h2
                    go_wp2_with fail
                    refine (RW.out _ (Keeps.refl [] _)).mono ?_
                    rintro e w16 ⟨rfl, hk16⟩
                    have K16 := Lib.hid hk16
                    clear hk16
                    go_wp2_with fail
                    refine (HO7.out _ (HK15.out.trans' K16.out)).mono ?_
                    rintro e w17 ⟨A17, c17, rfl, hp17, _, hk17⟩
                    have K17 := Lib.hid (K16.out.trans' hk17)
                    have RQ := Lib.hid (rsame_self A17 Aw T.length T.length c17 cw T w17 hp17 (PW15.out.grow K17.out) (by have := HG1.out; omega))
                    clear hp17 hk17
                    go_wp2_with fail
                    refine RQ.out.mono ?_
                    rintro e w18 ⟨rfl, hk18⟩
                    have KL15 := Lib.hid (K17.out.trans' hk18)
                    have KL := Lib.hid (HK15.out.trans' KL15.out)
                    clear hk18 RQ
                    go_wp2_with fail
                    go_region_held3 (fun w' => w'.cell? ⟨w.heap.size, 2, none⟩ = some (.slice x.A x.l.length x.c)) (first | exact y5 | exact y6 | exact y7 | exact y8 | exact (hF12.out _ (by repeat (first | exact Keeps.refl [] _ | exact KL.out | refine Keeps.drew ?_))).2.2.1 | go_keep)
                      (first
                      | (go_at_call 9; refine (HPA.out _ (by repeat (first | exact Keeps.refl [] _ | exact KL15.out | refine Keeps.drew ?_))).mono ?_; rintro e w20 ⟨rfl, hz20, hk20, hall⟩; have kk := HSEP.out _ (by repeat (first | exact Keeps.refl [] _ | exact KL15.out | refine Keeps.drew ?_)) w20 hk20; have HZ := Lib.hid hz20; have HAL := Lib.hid hall; have HKK := Lib.hid kk; have y5 := (hF12.out w20 kk).2.2.1; clear hz20 hk20 hall kk)
                      | (go_at_call 10; refine (HAL.out _ (by repeat (first | exact Keeps.refl [] _ | refine Keeps.drew ?_))).mono ?_; rintro e w21 ⟨B, d, rfl, hB, hk21⟩; have HB := Lib.hid hB; have kk := Keeps.trans' (a := w20) (bs := []) (by repeat (first | exact Keeps.refl [] _ | refine Keeps.drew ?_)) hk21; have HK21 := Lib.hid kk; have y6 := (hF12.out w21 (HKK.out.trans' kk)).2.2.1; clear hB hk21 kk)
                      | (go_at_call 16; refine (rbehind_is A15 T2.length c15 T2 x.A x.l.length x.c x.l _ (HZ.out.grow (by repeat (first | exact Keeps.refl [] _ | exact HK21.out | refine Keeps.drew ?_))) (HX12.out _ (by repeat (first | exact Keeps.refl [] _ | exact HKK.out.trans' HK21.out | refine Keeps.drew ?_))).chgs (by have := G2.out; omega) (by have := HFEW.out; omega) HRI2.out).mono ?_; rintro e w22 ⟨B2, m2, d2, rfl, hB2, _, hk22⟩; have HB2 := Lib.hid hB2; have kk := Keeps.trans' (a := w21) (bs := []) (by repeat (first | exact Keeps.refl [] _ | refine Keeps.drew ?_)) hk22; have HK22 := Lib.hid kk; have y7 := (hF12.out w22 (HKK.out.trans' (HK21.out.trans' kk))).2.2.1; clear hB2 hk22 kk)
                      | (go_at_call 15; refine (rsame_self B B2 (behindT T2 x.l).length m2 d d2 (behindT T2 x.l) _ (HB.out.grow (by repeat (first | exact Keeps.refl [] _ | exact HK22.out | refine Keeps.drew ?_))) (HB2.out.grow (by repeat (first | exact Keeps.refl [] _ | refine Keeps.drew ?_))) (by have := GB2.out; omega)).mono ?_; rintro e w23 ⟨rfl, hk23⟩; have HK23 := Lib.hid (Keeps.trans' (a := w22) (bs := []) (by repeat (first | exact Keeps.refl [] _ | refine Keeps.drew ?_)) hk23); have y8 := (hF12.out w23 (HKK.out.trans' (HK21.out.trans' (HK22.out.trans' HK23.out)))).2.2.1; clear hk23))
                    all_goals (
                      have HKE := Lib.hid (HKR.out.trans' (HK12.out.trans' (HKK.out.trans' (HK21.out.trans' (HK22.out.trans' HK23.out)))))
                      clear y5 y6 y7 HZ HAL HB HB2 HK21 HK22 HK23 HKK
                      go_wp2_with fail
                      go_roundw
                      case rel => exact ⟨j2 + 1, by go_num, by omega, HKE.out⟩
                      case measure => simp [intOf]; omega)
                  · rw [decide_eq_false h2] at RW
                    have h3 : T2 = behindT T x.l := HT2.out.resolve_left h2
                    rw [decide_eq_true h3] at RS
                    clear h2 h3
                    go_wp2_with fail
                    refine (RW.out _ (Keeps.refl [] _)).mono ?_
                    rintro e w16 ⟨rfl, hk16⟩
                    have K16 := Lib.hid hk16
                    clear hk16
                    go_wp2_with fail
                    refine (RS.out _ K16.out).mono ?_
                    rintro e w16b ⟨rfl, hk16⟩
                    have K16b := Lib.hid (K16.out.trans' hk16)
                    clear hk16
                    go_wp2_with fail
                    refine (HO7.out _ (HK15.out.trans' K16b.out)).mono ?_
                    rintro e w17 ⟨A17, c17, rfl, hp17, _, hk17⟩
                    have K17 := Lib.hid (K16b.out.trans' hk17)
                    have RQ := Lib.hid (rsame_self A17 Aw T.length T.length c17 cw T w17 hp17 (PW15.out.grow K17.out) (by have := HG1.out; omega))
                    clear hp17 hk17
                    go_wp2_with fail
                    refine RQ.out.mono ?_
                    rintro e w18 ⟨rfl, hk18⟩
                    have KL15 := Lib.hid (K17.out.trans' hk18)
                    have KL := Lib.hid (HK15.out.trans' KL15.out)
                    clear hk18 RQ
                    go_wp2_with fail
                    go_region_held3 (fun w' => w'.cell? ⟨w.heap.size, 2, none⟩ = some (.slice x.A x.l.length x.c)) (first | exact y5 | exact y6 | exact y7 | exact y8 | exact (hF12.out _ (by repeat (first | exact Keeps.refl [] _ | exact KL.out | refine Keeps.drew ?_))).2.2.1 | go_keep)
                      (first
                      | (go_at_call 9; refine (HPA.out _ (by repeat (first | exact Keeps.refl [] _ | exact KL15.out | refine Keeps.drew ?_))).mono ?_; rintro e w20 ⟨rfl, hz20, hk20, hall⟩; have kk := HSEP.out _ (by repeat (first | exact Keeps.refl [] _ | exact KL15.out | refine Keeps.drew ?_)) w20 hk20; have HZ := Lib.hid hz20; have HAL := Lib.hid hall; have HKK := Lib.hid kk; have y5 := (hF12.out w20 kk).2.2.1; clear hz20 hk20 hall kk)
                      | (go_at_call 10; refine (HAL.out _ (by repeat (first | exact Keeps.refl [] _ | refine Keeps.drew ?_))).mono ?_; rintro e w21 ⟨B, d, rfl, hB, hk21⟩; have HB := Lib.hid hB; have kk := Keeps.trans' (a := w20) (bs := []) (by repeat (first | exact Keeps.refl [] _ | refine Keeps.drew ?_)) hk21; have HK21 := Lib.hid kk; have y6 := (hF12.out w21 (HKK.out.trans' kk)).2.2.1; clear hB hk21 kk)
                      | (go_at_call 16; refine (rbehind_is A15 T2.length c15 T2 x.A x.l.length x.c x.l _ (HZ.out.grow (by repeat (first | exact Keeps.refl [] _ | exact HK21.out | refine Keeps.drew ?_))) (HX12.out _ (by repeat (first | exact Keeps.refl [] _ | exact HKK.out.trans' HK21.out | refine Keeps.drew ?_))).chgs (by have := G2.out; omega) (by have := HFEW.out; omega) HRI2.out).mono ?_; rintro e w22 ⟨B2, m2, d2, rfl, hB2, _, hk22⟩; have HB2 := Lib.hid hB2; have kk := Keeps.trans' (a := w21) (bs := []) (by repeat (first | exact Keeps.refl [] _ | refine Keeps.drew ?_)) hk22; have HK22 := Lib.hid kk; have y7 := (hF12.out w22 (HKK.out.trans' (HK21.out.trans' kk))).2.2.1; clear hB2 hk22 kk)
                      | (go_at_call 15; refine (rsame_self B B2 (behindT T2 x.l).length m2 d d2 (behindT T2 x.l) _ (HB.out.grow (by repeat (first | exact Keeps.refl [] _ | exact HK22.out | refine Keeps.drew ?_))) (HB2.out.grow (by repeat (first | exact Keeps.refl [] _ | refine Keeps.drew ?_))) (by have := GB2.out; omega)).mono ?_; rintro e w23 ⟨rfl, hk23⟩; have HK23 := Lib.hid (Keeps.trans' (a := w22) (bs := []) (by repeat (first | exact Keeps.refl [] _ | refine Keeps.drew ?_)) hk23); have y8 := (hF12.out w23 (HKK.out.trans' (HK21.out.trans' (HK22.out.trans' HK23.out)))).2.2.1; clear hk23))
                    all_goals (
                      have HKE := Lib.hid (HKR.out.trans' (HK12.out.trans' (HKK.out.trans' (HK21.out.trans' (HK22.out.trans' HK23.out)))))
                      clear y5 y6 y7 HZ HAL HB HB2 HK21 HK22 HK23 HKK
                      go_wp2_with fail
                      go_roundw
                      case rel => exact ⟨j2 + 1, by go_num, by omega, HKE.out⟩
                      case measure => simp [intOf]; omega)
                )
            · go_wp2_with fail
              refine (HK.out _).mono ?_
              rintro e w10 ⟨rfl, hk10⟩
              have HK10 := Lib.hid (HI9.out.keep.trans' (HKR.out.trans' hk10))
              clear hk10
              go_wp2_with fail
              go_ret
              exact ⟨rfl, HW.out.trans' (HK3.out.trans' HK10.out)⟩
        · go_wp2_with fail
          refine (HK.out _).mono ?_
          rintro e w9 ⟨rfl, hk9⟩
          have HK9 := Lib.hid (HI8.out.keep.trans' hk9)
          clear hk9
          go_wp2_with fail
          go_ret
          exact ⟨rfl, HW.out.trans' (HK3.out.trans' HK9.out)⟩)

end Go.Proofs.YthgpjlmdllihmaaGreat
