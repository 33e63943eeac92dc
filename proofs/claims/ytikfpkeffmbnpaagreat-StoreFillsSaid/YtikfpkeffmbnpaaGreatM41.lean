/- Texts of one proof, laid together: U55. -/
import Derived.Test.YtikfpkeffmbnpaaGreatM40
import Derived.Deep.RegionHeld3
/- StorePlay, a round of each kind. -/
namespace Go.Proofs.YtikfpkeffmbnpaaGreat
open Go.RowKit Go.Shelf Go.Maps
set_option linter.unusedVariables false
set_option linter.unusedSimpArgs false
set_option maxRecDepth 100000

theorem same_self {w : World} {s : St} {k : Dk} {T : Tab} (A : Option Addr) (n c : Nat) (h : StM w s k T) (hA : PrsAt w A n T) (hn : n ≤ 100000) :
    Calls Tryz.prog 20 #[.pointer (some ⟨s.p, 0, none⟩), .slice A n c] w fun e w' => e = .returned (.bool true) ∧ Keeps [] w w' := by
  have := same_is A n c T h hA hn
  rwa [decide_eq_true (rfl : T = T)] at this

theorem putN_true (T : Tab) (l : List Chg) (half : Nat) : putN T l true half ≠ 0 := by
  unfold putN
  split
  · decide
  · split
    · decide
    · rw [if_pos rfl]; decide

/-- The box of an act. -/
theorem box_cells {W : World} {b : Nat} {x : Act4} {xk : Int} (h : W.heap[b]? = some (.cells #[.int .i64 xk, .int .i64 x.n, .slice x.A x.l.length x.c, .int .i64 x.keep, .int .i64 x.torn] 39 (0, 0))) :
    W.cell? ⟨b, 0, none⟩ = some (.int .i64 xk) ∧ W.cell? ⟨b, 1, none⟩ = some (.int .i64 x.n) ∧ W.cell? ⟨b, 2, none⟩ = some (.slice x.A x.l.length x.c) ∧ W.cell? ⟨b, 3, none⟩ = some (.int .i64 x.keep) ∧ W.cell? ⟨b, 4, none⟩ = some (.int .i64 x.torn) :=
  ⟨cell_of_blk h 0, cell_of_blk h 1, cell_of_blk h 2, cell_of_blk h 3, cell_of_blk h 4⟩

set_option maxHeartbeats 8000000 in
theorem plays_any (n : Nat) (A : Option Addr) (len c : Nat) (l : List Act4) (w : World) (hn1 : 256 ≤ n) (hn2 : n ≤ 40000) (hl : Acts4 w A len l) (hm : len ≤ 9223372036854775807) :
    Calls Tryz.prog 3 #[.int .i64 (n : Int), .slice A len c] w fun e w' => e = .returned (.bool true) ∧ Keeps [] w w' := by
  have HK := Lib.hid (fun X => known4_any X)
  have HF := Lib.hid (few_is A len c l w hl hm)
  have hll := hl.len
  have HL := Lib.hid hl
  clear hl
  have q1 : ¬ (n : Int) < 0 := by omega
  have q2 : ¬ (40000 : Int) < (n : Int) := by omega
  have q3 : ¬ (n : Int) < 256 := by omega
  go_enter Tryz.func3, Tryz.ntmps3
  go_wp2_with fail
  refine HF.out.mono ?_
  rintro e w1 ⟨b, rfl, hb30, hk1⟩
  have HK1 := Lib.hid hk1
  clear hk1 HF
  cases b
  · go_wp2_with fail
    refine (HK.out _).mono ?_
    rintro e w2 ⟨rfl, hk⟩
    have HK2 := Lib.hid (HK1.out.trans' hk)
    clear hk
    go_wp2_with fail
    go_ret
    exact ⟨rfl, HK2.out⟩
  have h30 := hb30 rfl
  clear hb30
  go_wp2_with fail
  refine (new_yes n w1 (by omega) (by omega)).mono ?_
  rintro e w2 ⟨k, rfl, hd, e1, e2, e3, e4, e5, e6, e7, e8⟩
  have hc := calm_new hn1 e1 e2 e3 e4
  have hlen : k.S.length = n := by rw [e1, List.length_replicate]
  have HO := Lib.hid (open_any k w2 hd hc.holds)
  have HN := Lib.hid e7
  have HK2 := Lib.hid e8
  have HC := Lib.hid hc
  have hW0 : k.W.length ≤ 1 := calm_wl hc
  clear hd e1 e2 e3 e7 e8 hc
  go_wp2_with fail
  refine HO.out.mono ?_
  rintro e w3 ⟨p, m, rfl, hs, hm3, hp, hk⟩
  have z1 := HK2.out.size
  have z2 := hk.size
  have ka := (Keeps.refl [] w3).alloc (.cells #[.slice none 0 0, .int .i64 (n : Int), .bool false] 34)
  have HI0 : Hid (PlayI w1 (w3.alloc (.cells #[.slice none 0 0, .int .i64 (n : Int), .bool false] 34)) n w3.heap.size 0 ⟨p, n / 2, 0, m, k.p, false⟩ k [] none 0 0 none 0 0 []) :=
    ⟨hs.grow ka, heap_alloc_new _ _, ⟨rfl, fun i x h => by simp at h⟩, ⟨rfl, fun i x h => by simp at h⟩, .inl ⟨rfl, HC.out, rfl⟩, hlen, hW0, by omega, HN.out, fun b hb => by have := hm3 b hb; omega, by show w1.heap.size ≤ p; omega, by omega, ⟨fun hm => by have := hs.disk.lt _ hm; omega, fun e => by have := hs.st.lt; have e2 : w3.heap.size = p := e; have h2 : p < w3.heap.size := this; omega, fun e => by have := hs.mlt (b := w3.heap.size) e; omega⟩, fun h => absurd rfl h, fun h => absurd rfl h, (HK2.out.trans' hk).trans' ka⟩
  have HL1 := Lib.hid (HL.out.grow HK1.out)
  generalize hgB : w3.heap.size = gB at *
  clear hs hm3 hk HO HC HN e4 e5 e6 hlen hp HK2 HL ka z1 z2 hW0 q1 q2 q3
  go_wp2_with fail
  go_loopw [7, 10, 11] (fun pv ov i wr => ∃ j s k T GA gn gc OA on oc U, pv = .pointer (some ⟨s.p, 0, none⟩) ∧ ov = .slice OA on oc ∧ i = .int .i64 ((j : Nat) : Int) ∧ j ≤ len ∧ Hid (PlayI w1 wr n gB j s k T GA gn gc OA on oc U)) (fun _ _ i _ => len - (intOf i).toNat)
  case atStart => exact ⟨0, _, _, _, _, _, _, _, _, _, _, rfl, rfl, rfl, Nat.zero_le _, HI0.out⟩
  case round =>
    obtain ⟨j, s, k, T, GA, gn, gc, OA, on, oc, U, rfl, rfl, rfl, hj, HI⟩ := hrel
    by_cases hlt : j < len
    · have hx : l[j]? = some (l[j]'(by omega)) := List.getElem?_eq_getElem (by omega)
      obtain ⟨b, o, rfl, ho⟩ := (HL1.out.grow HI.out.keep).at_ j _ hx
      generalize l[j]'(by omega) = x at *
      have a0 := ho.c0
      have a1 := ho.c1
      have a2 := ho.c2
      have a3 := ho.c3
      have a4 := ho.c4
      obtain ⟨xk, hxk⟩ : ∃ q, x.kind = q := ⟨_, rfl⟩
      rw [hxk] at a0
      obtain ⟨X, hX⟩ : ∃ X, wr.alloc (.cells #[.int .i64 xk, .int .i64 x.n, .slice x.A x.l.length x.c, .int .i64 x.keep, .int .i64 x.torn] 39) = X := ⟨_, rfl⟩
      have kX : Keeps [] wr X := by rw [← hX]; exact (Keeps.refl [] wr).alloc _
      have bX : X.heap[wr.heap.size]? = some (.cells #[.int .i64 xk, .int .i64 x.n, .slice x.A x.l.length x.c, .int .i64 x.keep, .int .i64 x.torn] 39 (0, 0)) := by rw [← hX]; exact heap_alloc_new wr _
      have HP := Lib.hid (HI.out.grow kX)
      have HBX := Lib.hid bX
      have HIN := Lib.hid (ho.in_.grow kX)
      have hbx1 : wr.heap.size ∉ k.all ∧ wr.heap.size ≠ s.p := ⟨fun hm => by have := HI.out.st.disk.lt _ hm; omega, fun e => by have := HI.out.st.st.lt; omega⟩
      have HBS := Lib.hid hbx1
      have hfw := HI.out.st.good.few
      have hgn := HI.out.gt.len
      have hdone := HI.out.done
      have hj30 : j < 30 := by omega
      generalize hbxe : wr.heap.size = bx at *
      obtain ⟨y0, y1, y2, y3, y4⟩ := box_cells bX
      have u0 := cell_of_blk HP.out.g 0
      have u1 := cell_of_blk HP.out.g 1
      have u2 := cell_of_blk HP.out.g 2
      clear ho hx kX bX hbx1 HI hxk
      by_cases hk1 : xk = 1
      · subst hk1
        have HR := Lib.hid (rput_is GA gn gc n s.br T x.A x.l.length x.c x.l X HP.out.gt HIN.out.chgs HIN.out.len HP.out.st.good (by omega))
        unfold refV at HR
        cases hb : s.br
        · rw [hb] at HR u2
          have hcalm : Calm k.dat s.at_ s.turn T := by
            rcases HP.out.mode with ⟨_, h, _⟩ | ⟨h, _⟩
            · exact h
            · rw [hb] at h; cases h
          have HS := Lib.hid (fun Y (hk : Keeps [] X Y) => sput_any x.A x.l.length x.c x.l (HP.out.st.grow hk) hcalm hb HIN.out.len (HIN.out.chgs.grow hk) (by omega))
          have HBB := Lib.hid hb
          have HB2 := Lib.hid (fun Y (hk : Keeps [] X Y) => (box_cells (blk_keep HBX.out hk (by simp))).2.2.1)
          have hng : putN T x.l false (n / 2) = putN T x.l false (k.S.length / 2) := by rw [HP.out.len]
          generalize hN : putN T x.l false (n / 2) = N at *
          have HN := Lib.hid hN
          have HNG := Lib.hid hng
          clear hb hcalm hng hN
          go_wp2_with fail
          refine HR.out.mono ?_
          rintro e w4 ⟨A', n', c', rfl, hA', hsep, hk⟩
          have K4 := Lib.hid hk
          have HA' := Lib.hid hA'
          have HSEP := Lib.hid hsep
          have z2 := HB2.out _ hk
          clear hk hA' hsep HR
          go_wp2_with fail
          refine (HS.out w4 K4.out).mono ?_
          rintro e w5 ⟨nn, s', k', T', rfl, hpu⟩
          have HPU := Lib.hid hpu
          have gg := blk_keep (HP.out.grow K4.out).g hpu.keeps ((HP.out.grow K4.out).apart ⟨HP.out.gk.1, HP.out.gk.2.1⟩)
          have gc0 := cell_of_blk gg 0
          have gc2 := cell_of_blk gg 2
          have gf0 := free_of_blk gg 0
          have gf2 := free_of_blk gg 2
          clear hpu gg HS z2
          rcases HPU.out.what with ⟨c1, c2, c3, c4, c5, c6⟩ | ⟨c1, c2, c3, c4, c5⟩ | ⟨c1, c2, c3, c4, c5, c6⟩
          · have HT := Lib.hid (PlayI.put_same (HP.out.grow K4.out) HPU.out c4 c5 c6)
            subst c4
            subst c6
            clear c5
            rcases c3 with ⟨c7, c8⟩ | ⟨c7, c8⟩
            · have hN0 : N = 0 := HNG.out.trans c8
              subst hN0
              subst c7
              clear c8 c1 c2
              have g0 := cell_of_blk HT.out.g 0
              have g2 := cell_of_blk HT.out.g 2
              have HF := Lib.hid (fun Y (hk : Keeps [] w5 Y) => And.intro (cell_of_blk (blk_keep HT.out.g hk (by simp)) 0) (cell_of_blk (blk_keep HT.out.g hk (by simp)) 2))
              have hgn := HT.out.gt.len
              have hfw := HT.out.st.good.few
              have HSM := Lib.hid (fun Y (hk : Keeps [] w5 Y) => same_self GA gn gc (HT.out.st.grow hk) (HT.out.gt.grow hk) (by omega))
              have HBK := Lib.hid (fun Y (hk : Keeps [] w5 Y) => broken_ok (HT.out.st.grow hk).st)
              clear hgn hfw
              go_wp2_with fail
              go_region_held3 (fun w' => w'.cell? ⟨gB, 0, none⟩ = some (.slice GA gn gc) ∧ w'.cell? ⟨gB, 2, none⟩ = some (.bool s'.br)) (exact HF.out _ (by repeat (first | exact Keeps.refl [] _ | exact KS.out | refine Keeps.drew ?_)))
                (first
                | (go_at_call 20; refine (HSM.out _ (by repeat (first | exact Keeps.refl [] _ | exact KS.out | refine Keeps.drew ?_))).mono ?_; rintro e wS ⟨rfl, hkS⟩; have KS : Hid (Keeps [] w5 wS) := Keeps.trans' (by repeat (first | exact Keeps.refl [] _ | exact KS.out | refine Keeps.drew ?_)) hkS; clear hkS)
                | (go_at_call 21; refine (HBK.out _ (by repeat (first | exact Keeps.refl [] _ | exact KS.out | refine Keeps.drew ?_))).mono ?_; rintro e w' ⟨rfl, rfl⟩))
              all_goals
                go_wp2_with fail
                go_roundw
                case rel => exact ⟨j + 1, _, _, _, _, _, _, _, _, _, _, rfl, rfl, by go_num, by omega, HT.out.grow KS.out⟩
                case measure => simp [intOf]; omega
            · have hNn : nn = N := c8.trans HNG.out.symm
              subst hNn
              clear c8
              have g0 := cell_of_blk HT.out.g 0
              have g2 := cell_of_blk HT.out.g 2
              have HF := Lib.hid (fun Y (hk : Keeps [] w5 Y) => And.intro (cell_of_blk (blk_keep HT.out.g hk (by simp)) 0) (cell_of_blk (blk_keep HT.out.g hk (by simp)) 2))
              have hgn := HT.out.gt.len
              have hfw := HT.out.st.good.few
              have HSM := Lib.hid (fun Y (hk : Keeps [] w5 Y) => same_self GA gn gc (HT.out.st.grow hk) (HT.out.gt.grow hk) (by omega))
              have HBK := Lib.hid (fun Y (hk : Keeps [] w5 Y) => broken_ok (HT.out.st.grow hk).st)
              clear hgn hfw
              go_wp2_with fail
              go_region_held3 (fun w' => w'.cell? ⟨gB, 0, none⟩ = some (.slice GA gn gc) ∧ w'.cell? ⟨gB, 2, none⟩ = some (.bool s'.br)) (exact HF.out _ (by repeat (first | exact Keeps.refl [] _ | exact KS.out | refine Keeps.drew ?_)))
                (first
                | (go_at_call 20; refine (HSM.out _ (by repeat (first | exact Keeps.refl [] _ | exact KS.out | refine Keeps.drew ?_))).mono ?_; rintro e wS ⟨rfl, hkS⟩; have KS : Hid (Keeps [] w5 wS) := Keeps.trans' (by repeat (first | exact Keeps.refl [] _ | exact KS.out | refine Keeps.drew ?_)) hkS; clear hkS)
                | (go_at_call 21; refine (HBK.out _ (by repeat (first | exact Keeps.refl [] _ | exact KS.out | refine Keeps.drew ?_))).mono ?_; rintro e w' ⟨rfl, rfl⟩))
              all_goals
                go_wp2_with fail
                go_roundw
                case rel => exact ⟨j + 1, _, _, _, _, _, _, _, _, _, _, rfl, rfl, by go_num, by omega, HT.out.grow KS.out⟩
                case measure => simp [intOf]; omega
          · have hN0 : N = 0 := HNG.out.trans c1
            have hrf : refT T x.l false (n / 2) = behindT T x.l := by unfold refT; rw [if_pos (by rw [HN.out]; exact hN0)]
            have hA2 := HA'.out
            have hs2 := HSEP.out
            rw [hrf] at hA2 hs2
            have HT := Lib.hid (PlayI.put_ok (c' := c') HP.out K4.out hA2 hs2 HPU.out c3 HBB.out c4 c5)
            have hsp := HPU.out.p
            have HBR := Lib.hid c3
            subst hN0
            subst c2
            clear c1 c3 c4 c5 hrf hA2 hs2
            go_wp2_with fail
            have g0 := cell_of_blk HT.out.g 0
            have g2 := cell_of_blk HT.out.g 2
            have HF := Lib.hid (fun Y (hk : Keeps [] (w5.setCell ⟨gB, 0, none⟩ (.slice A' n' c')) Y) => And.intro (cell_of_blk (blk_keep HT.out.g hk (by simp)) 0) (cell_of_blk (blk_keep HT.out.g hk (by simp)) 2))
            have hgn := HT.out.gt.len
            have hfw := HT.out.st.good.few
            have HSM := Lib.hid (fun Y (hk : Keeps [] (w5.setCell ⟨gB, 0, none⟩ (.slice A' n' c')) Y) => same_self A' n' c' (HT.out.st.grow hk) (HT.out.gt.grow hk) (by omega))
            have HBK := Lib.hid (fun Y (hk : Keeps [] (w5.setCell ⟨gB, 0, none⟩ (.slice A' n' c')) Y) => broken_ok (HT.out.st.grow hk).st)
            clear hgn hfw
            rw [hsp] at HSM HBK
            go_wp2_with fail
            go_region_held3 (fun w' => w'.cell? ⟨gB, 0, none⟩ = some (.slice A' n' c') ∧ w'.cell? ⟨gB, 2, none⟩ = some (.bool s'.br)) (exact HF.out _ (by repeat (first | exact Keeps.refl [] _ | exact KS.out | refine Keeps.drew ?_)))
              (first
              | (go_at_call 20; refine (HSM.out _ (by repeat (first | exact Keeps.refl [] _ | exact KS.out | refine Keeps.drew ?_))).mono ?_; rintro e wS ⟨rfl, hkS⟩; have KS : Hid (Keeps [] (w5.setCell ⟨gB, 0, none⟩ (.slice A' n' c')) wS) := Keeps.trans' (by repeat (first | exact Keeps.refl [] _ | exact KS.out | refine Keeps.drew ?_)) hkS; clear hkS)
              | (go_at_call 21; refine (HBK.out _ (by repeat (first | exact Keeps.refl [] _ | exact KS.out | refine Keeps.drew ?_))).mono ?_; rintro e w' ⟨rfl, rfl⟩))
            all_goals
              go_wp2_with fail
              go_roundw
              case rel => exact ⟨j + 1, _, _, _, _, _, _, _, _, _, _, (by rw [hsp]), rfl, by go_num, by omega, HT.out.grow KS.out⟩
              case measure => simp [intOf]; omega
          · have hN0 : N = 0 := HNG.out.trans c1
            have hrf : refT T x.l false (n / 2) = behindT T x.l := by unfold refT; rw [if_pos (by rw [HN.out]; exact hN0)]
            have hA2 := HA'.out
            have hs2 := HSEP.out
            rw [hrf] at hA2 hs2
            have hwl := HPU.out.wl
            have HT := Lib.hid (PlayI.put_stop (c' := c') HP.out K4.out hA2 hs2 HPU.out c3 c4 c5 hwl)
            have hsp := HPU.out.p
            have HBR := Lib.hid c3
            subst hN0
            subst c2
            clear c1 c3 c4 c5 c6 hrf hA2 hs2 hwl
            go_wp2_with fail
            have g0 := cell_of_blk HT.out.g 0
            have g2 := cell_of_blk HT.out.g 2
            have HF := Lib.hid (fun Y (hk : Keeps [] (w5.setCell ⟨gB, 2, none⟩ (.bool true)) Y) => And.intro (cell_of_blk (blk_keep HT.out.g hk (by simp)) 0) (cell_of_blk (blk_keep HT.out.g hk (by simp)) 2))
            have hgn := HT.out.gt.len
            have hfw := HT.out.st.good.few
            have HSM := Lib.hid (fun Y (hk : Keeps [] (w5.setCell ⟨gB, 2, none⟩ (.bool true)) Y) => same_self GA gn gc (HT.out.st.grow hk) (HT.out.gt.grow hk) (by omega))
            have HBK := Lib.hid (fun Y (hk : Keeps [] (w5.setCell ⟨gB, 2, none⟩ (.bool true)) Y) => broken_ok (HT.out.st.grow hk).st)
            clear hgn hfw
            rw [hsp] at HSM HBK
            go_wp2_with fail
            go_region_held3 (fun w' => w'.cell? ⟨gB, 0, none⟩ = some (.slice GA gn gc) ∧ w'.cell? ⟨gB, 2, none⟩ = some (.bool s'.br)) (exact HF.out _ (by repeat (first | exact Keeps.refl [] _ | exact KS.out | refine Keeps.drew ?_)))
              (first
              | (go_at_call 20; refine (HSM.out _ (by repeat (first | exact Keeps.refl [] _ | exact KS.out | refine Keeps.drew ?_))).mono ?_; rintro e wS ⟨rfl, hkS⟩; have KS : Hid (Keeps [] (w5.setCell ⟨gB, 2, none⟩ (.bool true)) wS) := Keeps.trans' (by repeat (first | exact Keeps.refl [] _ | exact KS.out | refine Keeps.drew ?_)) hkS; clear hkS)
              | (go_at_call 21; refine (HBK.out _ (by repeat (first | exact Keeps.refl [] _ | exact KS.out | refine Keeps.drew ?_))).mono ?_; rintro e w' ⟨rfl, rfl⟩))
            all_goals
              go_wp2_with fail
              go_roundw
              case rel => exact ⟨j + 1, _, _, _, _, _, _, _, _, _, _, (by rw [hsp]), rfl, by go_num, by omega, HT.out.grow KS.out⟩
              case measure => simp [intOf]; omega
        · rw [hb] at HR u2
          have HS := Lib.hid (fun Y (hk : Keeps [] X Y) => sput_broken x.A x.l.length x.c x.l (HP.out.st.grow hk) hb HIN.out.len (HIN.out.chgs.grow hk) (n / 2))
          have HBB := Lib.hid hb
          have HB2 := Lib.hid (fun Y (hk : Keeps [] X Y) => (box_cells (blk_keep HBX.out hk (by simp))).2.2.1)
          have hN0 : putN T x.l true (n / 2) ≠ 0 := putN_true _ _ _
          generalize putN T x.l true (n / 2) = N at *
          clear hb
          go_wp2_with fail
          refine HR.out.mono ?_
          rintro e w4 ⟨A', n', c', rfl, hA', hsep, hk⟩
          have K4 := Lib.hid hk
          have z2 := HB2.out _ hk
          clear hk hA' hsep HR
          go_wp2_with fail
          refine (HS.out w4 K4.out).mono ?_
          rintro e w5 ⟨rfl, _, hk⟩
          have HT := Lib.hid ((HP.out.more.grow K4.out).grow hk)
          clear hk HS z2
          have g0 := cell_of_blk HT.out.g 0
          have g2 := cell_of_blk HT.out.g 2
          have HF := Lib.hid (fun Y (hk : Keeps [] w5 Y) => And.intro (cell_of_blk (blk_keep HT.out.g hk (by simp)) 0) (cell_of_blk (blk_keep HT.out.g hk (by simp)) 2))
          have hgn := HT.out.gt.len
          have hfw := HT.out.st.good.few
          have HSM := Lib.hid (fun Y (hk : Keeps [] w5 Y) => same_self GA gn gc (HT.out.st.grow hk) (HT.out.gt.grow hk) (by omega))
          have HBK := Lib.hid (fun Y (hk : Keeps [] w5 Y) => broken_ok (HT.out.st.grow hk).st)
          clear hgn hfw
          go_wp2_with fail
          go_region_held3 (fun w' => w'.cell? ⟨gB, 0, none⟩ = some (.slice GA gn gc) ∧ w'.cell? ⟨gB, 2, none⟩ = some (.bool s.br)) (exact HF.out _ (by repeat (first | exact Keeps.refl [] _ | exact KS.out | refine Keeps.drew ?_)))
            (first
            | (go_at_call 20; refine (HSM.out _ (by repeat (first | exact Keeps.refl [] _ | exact KS.out | refine Keeps.drew ?_))).mono ?_; rintro e wS ⟨rfl, hkS⟩; have KS : Hid (Keeps [] w5 wS) := Keeps.trans' (by repeat (first | exact Keeps.refl [] _ | exact KS.out | refine Keeps.drew ?_)) hkS; clear hkS)
            | (go_at_call 21; refine (HBK.out _ (by repeat (first | exact Keeps.refl [] _ | exact KS.out | refine Keeps.drew ?_))).mono ?_; rintro e w' ⟨rfl, rfl⟩))
          all_goals
            go_wp2_with fail
            go_roundw
            case rel => exact ⟨j + 1, _, _, _, _, _, _, _, _, _, _, rfl, rfl, by go_num, by omega, HT.out.grow KS.out⟩
            case measure => simp [intOf]; omega
      by_cases hk2 : xk = 2
      · subst hk2
        have HARM := Lib.hid (fun Y (hk : Keeps [] X Y) => arm_any k x.n Y (HP.out.st.disk.grow hk) HIN.out.i1)
        have HDK := Lib.hid (fun Y (hk : Keeps [] X Y) => disk_ok (HP.out.st.grow hk).st)
        rw [HP.out.st.dp] at HDK
        have hlim : k.lim ≤ n := by have h1 := HP.out.st.disk.lim; have h2 := HP.out.len; omega
        have HLM := Lib.hid hlim
        have HB1 := Lib.hid (fun Y (hk : Keeps [] X Y) => (box_cells (blk_keep HBX.out hk (by simp))).2.1)
        clear hlim
        go_wp2_with fail
        go_region_held3 (fun w' => w'.cell? ⟨bx, 1, none⟩ = some (.int .i64 x.n)) (first | exact y14 | exact HB1.out _ (by repeat (first | exact Keeps.refl [] _ | refine Keeps.drew ?_)))
          (first
          | (go_at_call 16; refine (HDK.out _ (by repeat (first | exact Keeps.refl [] _ | refine Keeps.drew ?_))).mono ?_; rintro e w' ⟨rfl, rfl⟩)
          | (go_at_call 17; refine (HARM.out _ (by repeat (first | exact Keeps.refl [] _ | refine Keeps.drew ?_))).mono ?_; rintro e w4 ⟨rfl, hd4, hk4⟩; have HT := Lib.hid (PlayI.nums (HP.out.grow (by repeat (first | exact Keeps.refl [] _ | refine Keeps.drew ?_))) hd4 hk4 HLM.out); have y14 := (box_cells (blk_keep HBX.out (Keeps.trans' (bs := [k.p]) (Keeps.mono (bs := []) (by repeat (first | exact Keeps.refl [] _ | refine Keeps.drew ?_)) (by simp)) hk4) (fun hm => HBS.out.1 (by rw [List.mem_singleton.1 hm]; exact fp_sub (by simp [Dk.fp]))))).2.1; clear hd4 hk4))
        all_goals
          have g0 := cell_of_blk HT.out.g 0
          have g2 := cell_of_blk HT.out.g 2
          have HF := Lib.hid (fun Y (hk : Keeps [] w4 Y) => And.intro (cell_of_blk (blk_keep HT.out.g hk (by simp)) 0) (cell_of_blk (blk_keep HT.out.g hk (by simp)) 2))
          have hgn := HT.out.gt.len
          have hfw := HT.out.st.good.few
          have HSM := Lib.hid (fun Y (hk : Keeps [] w4 Y) => same_self GA gn gc (HT.out.st.grow hk) (HT.out.gt.grow hk) (by omega))
          have HBK := Lib.hid (fun Y (hk : Keeps [] w4 Y) => broken_ok (HT.out.st.grow hk).st)
          clear hgn hfw
          go_wp2_with fail
          go_region_held3 (fun w' => w'.cell? ⟨gB, 0, none⟩ = some (.slice GA gn gc) ∧ w'.cell? ⟨gB, 2, none⟩ = some (.bool s.br)) (exact HF.out _ (by repeat (first | exact Keeps.refl [] _ | exact KS.out | refine Keeps.drew ?_)))
            (first
            | (go_at_call 20; refine (HSM.out _ (by repeat (first | exact Keeps.refl [] _ | exact KS.out | refine Keeps.drew ?_))).mono ?_; rintro e wS ⟨rfl, hkS⟩; have KS : Hid (Keeps [] w4 wS) := Keeps.trans' (by repeat (first | exact Keeps.refl [] _ | exact KS.out | refine Keeps.drew ?_)) hkS; clear hkS)
            | (go_at_call 21; refine (HBK.out _ (by repeat (first | exact Keeps.refl [] _ | exact KS.out | refine Keeps.drew ?_))).mono ?_; rintro e w' ⟨rfl, rfl⟩))
          all_goals
            go_wp2_with fail
            go_roundw
            case rel => exact ⟨j + 1, _, _, _, _, _, _, _, _, _, _, rfl, rfl, by go_num, by omega, HT.out.grow KS.out⟩
            case measure => simp [intOf]; omega
      by_cases hk3 : xk = 3
      · subst hk3
        by_cases hq0 : x.n < 0 ∨ (n : Int) < x.n
        · have HLIM := Lib.hid (fun Y (hk : Keeps [] X Y) => limit_no k x.n Y (HP.out.st.disk.grow hk) (by rw [HP.out.len]; omega))
          have HDK := Lib.hid (fun Y (hk : Keeps [] X Y) => disk_ok (HP.out.st.grow hk).st)
          rw [HP.out.st.dp] at HDK
          have HB1 := Lib.hid (fun Y (hk : Keeps [] X Y) => (box_cells (blk_keep HBX.out hk (by simp))).2.1)
          go_wp2_with fail
          go_region_held3 (fun w' => w'.cell? ⟨bx, 1, none⟩ = some (.int .i64 x.n)) (first | exact HB1.out _ (by repeat (first | exact Keeps.refl [] _ | refine Keeps.drew ?_)))
            (first
            | (go_at_call 16; refine (HDK.out _ (by repeat (first | exact Keeps.refl [] _ | refine Keeps.drew ?_))).mono ?_; rintro e w' ⟨rfl, rfl⟩)
            | (go_at_call 18; refine (HLIM.out _ (by repeat (first | exact Keeps.refl [] _ | refine Keeps.drew ?_))).mono ?_; rintro e w4 ⟨rfl, rfl⟩; have HT := Lib.hid HP.out.more))
          all_goals
            have g0 := cell_of_blk HT.out.g 0
            have g2 := cell_of_blk HT.out.g 2
            have HF := Lib.hid (fun Y (hk : Keeps [] X Y) => And.intro (cell_of_blk (blk_keep HT.out.g hk (by simp)) 0) (cell_of_blk (blk_keep HT.out.g hk (by simp)) 2))
            have hgn := HT.out.gt.len
            have hfw := HT.out.st.good.few
            have HSM := Lib.hid (fun Y (hk : Keeps [] X Y) => same_self GA gn gc (HT.out.st.grow hk) (HT.out.gt.grow hk) (by omega))
            have HBK := Lib.hid (fun Y (hk : Keeps [] X Y) => broken_ok (HT.out.st.grow hk).st)
            clear hgn hfw
            go_wp2_with fail
            go_region_held3 (fun w' => w'.cell? ⟨gB, 0, none⟩ = some (.slice GA gn gc) ∧ w'.cell? ⟨gB, 2, none⟩ = some (.bool s.br)) (exact HF.out _ (by repeat (first | exact Keeps.refl [] _ | exact KS.out | refine Keeps.drew ?_)))
              (first
              | (go_at_call 20; refine (HSM.out _ (by repeat (first | exact Keeps.refl [] _ | exact KS.out | refine Keeps.drew ?_))).mono ?_; rintro e wS ⟨rfl, hkS⟩; have KS : Hid (Keeps [] X wS) := Keeps.trans' (by repeat (first | exact Keeps.refl [] _ | exact KS.out | refine Keeps.drew ?_)) hkS; clear hkS)
              | (go_at_call 21; refine (HBK.out _ (by repeat (first | exact Keeps.refl [] _ | exact KS.out | refine Keeps.drew ?_))).mono ?_; rintro e w' ⟨rfl, rfl⟩))
            all_goals
              go_wp2_with fail
              go_roundw
              case rel => exact ⟨j + 1, _, _, _, _, _, _, _, _, _, _, rfl, rfl, by go_num, by omega, HT.out.grow KS.out⟩
              case measure => simp [intOf]; omega
        · obtain ⟨ln, hln⟩ := Int.eq_ofNat_of_zero_le (show 0 ≤ x.n by omega)
          have hq : ln ≤ n := by omega
          have HLN := Lib.hid hln
          clear hln
          have HLIM := Lib.hid (fun Y (hk : Keeps [] X Y) => (show Calls Tryz.prog 18 #[.pointer (some ⟨k.p, 0, none⟩), .int .i64 x.n] Y (fun e w' => e = .returned (.int .i64 0) ∧ DiskAt w' (k.nums ln k.left k.done) ∧ Keeps [k.p] Y w') from by rw [HLN.out]; exact limit_yes k ln Y (HP.out.st.disk.grow hk) (by rw [HP.out.len]; exact hq)))
          have HDK := Lib.hid (fun Y (hk : Keeps [] X Y) => disk_ok (HP.out.st.grow hk).st)
          rw [HP.out.st.dp] at HDK
          have HLQ := Lib.hid hq
          have HB1 := Lib.hid (fun Y (hk : Keeps [] X Y) => (box_cells (blk_keep HBX.out hk (by simp))).2.1)
          go_wp2_with fail
          go_region_held3 (fun w' => w'.cell? ⟨bx, 1, none⟩ = some (.int .i64 x.n)) (first | exact y14 | exact HB1.out _ (by repeat (first | exact Keeps.refl [] _ | refine Keeps.drew ?_)))
            (first
            | (go_at_call 16; refine (HDK.out _ (by repeat (first | exact Keeps.refl [] _ | refine Keeps.drew ?_))).mono ?_; rintro e w' ⟨rfl, rfl⟩)
            | (go_at_call 18; refine (HLIM.out _ (by repeat (first | exact Keeps.refl [] _ | refine Keeps.drew ?_))).mono ?_; rintro e w4 ⟨rfl, hd4, hk4⟩; have HT := Lib.hid (PlayI.nums (HP.out.grow (by repeat (first | exact Keeps.refl [] _ | refine Keeps.drew ?_))) hd4 hk4 HLQ.out); have y14 := (box_cells (blk_keep HBX.out (Keeps.trans' (bs := [k.p]) (Keeps.mono (bs := []) (by repeat (first | exact Keeps.refl [] _ | refine Keeps.drew ?_)) (by simp)) hk4) (fun hm => HBS.out.1 (by rw [List.mem_singleton.1 hm]; exact fp_sub (by simp [Dk.fp]))))).2.1; clear hd4 hk4))
          all_goals
            have g0 := cell_of_blk HT.out.g 0
            have g2 := cell_of_blk HT.out.g 2
            have HF := Lib.hid (fun Y (hk : Keeps [] w4 Y) => And.intro (cell_of_blk (blk_keep HT.out.g hk (by simp)) 0) (cell_of_blk (blk_keep HT.out.g hk (by simp)) 2))
            have hgn := HT.out.gt.len
            have hfw := HT.out.st.good.few
            have HSM := Lib.hid (fun Y (hk : Keeps [] w4 Y) => same_self GA gn gc (HT.out.st.grow hk) (HT.out.gt.grow hk) (by omega))
            have HBK := Lib.hid (fun Y (hk : Keeps [] w4 Y) => broken_ok (HT.out.st.grow hk).st)
            clear hgn hfw
            go_wp2_with fail
            go_region_held3 (fun w' => w'.cell? ⟨gB, 0, none⟩ = some (.slice GA gn gc) ∧ w'.cell? ⟨gB, 2, none⟩ = some (.bool s.br)) (exact HF.out _ (by repeat (first | exact Keeps.refl [] _ | exact KS.out | refine Keeps.drew ?_)))
              (first
              | (go_at_call 20; refine (HSM.out _ (by repeat (first | exact Keeps.refl [] _ | exact KS.out | refine Keeps.drew ?_))).mono ?_; rintro e wS ⟨rfl, hkS⟩; have KS : Hid (Keeps [] w4 wS) := Keeps.trans' (by repeat (first | exact Keeps.refl [] _ | exact KS.out | refine Keeps.drew ?_)) hkS; clear hkS)
              | (go_at_call 21; refine (HBK.out _ (by repeat (first | exact Keeps.refl [] _ | exact KS.out | refine Keeps.drew ?_))).mono ?_; rintro e w' ⟨rfl, rfl⟩))
            all_goals
              go_wp2_with fail
              go_roundw
              case rel => exact ⟨j + 1, _, _, _, _, _, _, _, _, _, _, rfl, rfl, by go_num, by omega, HT.out.grow KS.out⟩
              case measure => simp [intOf]; omega
      by_cases hk4 : xk = 4
      · subst hk4
        have HDK := Lib.hid (fun Y (hk : Keeps [] X Y) => disk_ok (HP.out.st.grow hk).st)
        rw [HP.out.st.dp] at HDK
        have HCR := Lib.hid (crash_dat k k.dat x.keep x.torn X HP.out.st.disk rfl HIN.out.i3 HIN.out.i4 (by have := HP.out.wl; simp [Dk.dat]; omega))
        have hpick : ∃ atx tx TX, Holds (tornOf k.dat x.keep x.torn) atx tx TX ∧ (TX = T ∨ TX = U) := by
          rcases HP.out.mode with ⟨_, h, _⟩ | ⟨_, a1, a2, a3, a4, h⟩
          · refine ⟨s.at_, s.turn, T, ?_, .inl rfl⟩
            have := (h.crash x.keep x.torn).holds
            exact this
          · rcases h x.keep x.torn with h | h
            · exact ⟨_, _, T, h, .inl rfl⟩
            · exact ⟨_, _, U, h, .inr rfl⟩
        obtain ⟨atx, tx, TX, hhold, htu⟩ := hpick
        have HTU := Lib.hid htu
        have HTL := Lib.hid (torn_len HP.out.st.disk x.keep x.torn)
        have hlim := HP.out.st.disk.lim
        have HLI := Lib.hid hlim
        have HHO := Lib.hid hhold
        clear hhold htu hlim
        go_wp2_with fail
        refine (HDK.out _ (Keeps.refl [] X)).mono ?_
        rintro e w' ⟨rfl, rfl⟩
        go_wp2_with fail
        refine HCR.out.mono ?_
        rintro e w4 ⟨k2, rfl, hd2, e2, hn2, hk⟩
        have HX4 := Lib.hid hk
        have hS2 : k2.S = tornOf k.dat x.keep x.torn := dat_S e2
        have hc2 : Calm k2.dat atx tx TX := by
          rw [e2]
          exact ⟨rfl, rfl, HHO.out, by show k.lim ≤ (tornOf k.dat x.keep x.torn).length; rw [HTL.out]; exact HLI.out⟩
        have HC := Lib.hid hc2
        have HLEN : Hid (k2.S.length = n) := by show _ = _; rw [hS2, HTL.out]; exact HP.out.len
        have HDN : Hid (k2.done ≤ 4 * j) := by show _ ≤ _; rw [dat_done e2]; exact Nat.zero_le _
        have HALL : Hid (∀ b ∈ k2.all, b ∈ k.all ∨ X.heap.size ≤ b) := fun b hb => .inr (hn2 b hb)
        have HO := Lib.hid (open_any k2 w4 hd2 hc2.holds)
        clear hd2 e2 hn2 hk hS2 hc2 HCR HDK
        go_wp2_with fail
        refine HO.out.mono ?_
        rintro e w6 ⟨p6, m6, rfl, hs6, hm6, hp6, hk6⟩
        have HS6 := Lib.hid hs6
        have HM6 := Lib.hid hm6
        have HP6 := Lib.hid hp6
        have HK46 := Lib.hid hk6
        have HK6 := Lib.hid (HX4.out.trans' hk6)
        have gq := blk_keep HP.out.g HK6.out (by simp)
        have v0 := cell_of_blk gq 0
        have v2 := cell_of_blk gq 2
        clear hs6 hm6 hp6 hk6 HO gq y0 y1 y2 y3 y4 u0 u1 u2
        have hgn := HP.out.gt.len
        have hfw := HP.out.st.good.few
        have HSA := Lib.hid (same_is GA gn gc T (HS6.out) (HP.out.gt.grow HK6.out) (by omega))
        clear hgn hfw
        by_cases hd : TX = T
        · rw [decide_eq_true hd] at HSA
          have HD := Lib.hid hd
          clear hd
          go_wp2_with fail
          refine HSA.out.mono ?_
          rintro e w7 ⟨rfl, hk7⟩
          have HK7 := Lib.hid (HK46.out.trans' hk7)
          have HX7 := Lib.hid (HK6.out.trans' hk7)
          have gg := blk_keep HP.out.g HX7.out (by simp)
          have gc0 := cell_of_blk gg 0
          have gc2 := cell_of_blk gg 2
          have gf0 := free_of_blk gg 0
          have gf2 := free_of_blk gg 2
          have hg4 := (g_set gg (.bool false)).2
          have k9 := (Keeps.refl [gB] w7).setCell (p := ⟨gB, 2, none⟩) (.inl (by simp)) (.bool false)
          have HT := Lib.hid (PlayI.reopen HP.out HX4.out (HS6.out.grow hk7) HK7.out HC.out HLEN.out HDN.out HALL.out HM6.out HP6.out (XA := GA) (xn := gn) (xc := gc) (by rw [HD.out]; exact HP.out.gt) (by rw [HD.out]; exact HP.out.gs) k9 hg4)
          clear gg hg4 k9 hk7 HSA
          go_wp2_with fail
          have g0 := cell_of_blk HT.out.g 0
          have g2 := cell_of_blk HT.out.g 2
          have HF := Lib.hid (fun Y (hk : Keeps [] (w7.setCell ⟨gB, 2, none⟩ (.bool false)) Y) => And.intro (cell_of_blk (blk_keep HT.out.g hk (by simp)) 0) (cell_of_blk (blk_keep HT.out.g hk (by simp)) 2))
          have hgn := HT.out.gt.len
          have hfw := HT.out.st.good.few
          have HSM := Lib.hid (fun Y (hk : Keeps [] (w7.setCell ⟨gB, 2, none⟩ (.bool false)) Y) => same_self GA gn gc (HT.out.st.grow hk) (HT.out.gt.grow hk) (by omega))
          have HBK := Lib.hid (fun Y (hk : Keeps [] (w7.setCell ⟨gB, 2, none⟩ (.bool false)) Y) => broken_ok (HT.out.st.grow hk).st)
          clear hgn hfw
          go_wp2_with fail
          go_region_held3 (fun w' => w'.cell? ⟨gB, 0, none⟩ = some (.slice GA gn gc) ∧ w'.cell? ⟨gB, 2, none⟩ = some (.bool false)) (exact HF.out _ (by repeat (first | exact Keeps.refl [] _ | exact KS.out | refine Keeps.drew ?_)))
            (first
            | (go_at_call 20; refine (HSM.out _ (by repeat (first | exact Keeps.refl [] _ | exact KS.out | refine Keeps.drew ?_))).mono ?_; rintro e wS ⟨rfl, hkS⟩; have KS : Hid (Keeps [] (w7.setCell ⟨gB, 2, none⟩ (.bool false)) wS) := Keeps.trans' (by repeat (first | exact Keeps.refl [] _ | exact KS.out | refine Keeps.drew ?_)) hkS; clear hkS)
            | (go_at_call 21; refine (HBK.out _ (by repeat (first | exact Keeps.refl [] _ | exact KS.out | refine Keeps.drew ?_))).mono ?_; rintro e w' ⟨rfl, rfl⟩))
          all_goals
            go_wp2_with fail
            go_roundw
            case rel => exact ⟨j + 1, _, _, _, _, _, _, _, _, _, _, rfl, rfl, by go_num, by omega, HT.out.grow KS.out⟩
            case measure => simp [intOf]; omega
        · rw [decide_eq_false hd] at HSA
          have hU : Hid (TX = U) := by rcases HTU.out with h | h; exact absurd h hd; exact h
          clear hd
          go_wp2_with fail
          refine HSA.out.mono ?_
          rintro e w7 ⟨rfl, hk7⟩
          have HK7 := Lib.hid (HK46.out.trans' hk7)
          have HX7 := Lib.hid (HK6.out.trans' hk7)
          have gg := blk_keep HP.out.g HX7.out (by simp)
          have gc0 := cell_of_blk gg 0
          have gc2 := cell_of_blk gg 2
          have gf0 := free_of_blk gg 0
          have gf2 := free_of_blk gg 2
          have hg4 := (g_set (g_set gg (.slice OA on oc)).1 (.bool false)).2
          have k9 := ((Keeps.refl [gB] w7).setCell (p := ⟨gB, 0, none⟩) (.inl (by simp)) (.slice OA on oc)).setCell (p := ⟨gB, 2, none⟩) (.inl (by simp)) (.bool false)
          have HT := Lib.hid (PlayI.reopen HP.out HX4.out (HS6.out.grow hk7) HK7.out HC.out HLEN.out HDN.out HALL.out HM6.out HP6.out (XA := OA) (xn := on) (xc := oc) (by rw [hU.out]; exact HP.out.ot) (by rw [hU.out]; exact HP.out.os) k9 hg4)
          clear gg hg4 k9 hk7 HSA
          go_wp2_with fail
          have g0 := cell_of_blk HT.out.g 0
          have g2 := cell_of_blk HT.out.g 2
          have HF := Lib.hid (fun Y (hk : Keeps [] ((w7.setCell ⟨gB, 0, none⟩ (.slice OA on oc)).setCell ⟨gB, 2, none⟩ (.bool false)) Y) => And.intro (cell_of_blk (blk_keep HT.out.g hk (by simp)) 0) (cell_of_blk (blk_keep HT.out.g hk (by simp)) 2))
          have hgn := HT.out.gt.len
          have hfw := HT.out.st.good.few
          have HSM := Lib.hid (fun Y (hk : Keeps [] ((w7.setCell ⟨gB, 0, none⟩ (.slice OA on oc)).setCell ⟨gB, 2, none⟩ (.bool false)) Y) => same_self OA on oc (HT.out.st.grow hk) (HT.out.gt.grow hk) (by omega))
          have HBK := Lib.hid (fun Y (hk : Keeps [] ((w7.setCell ⟨gB, 0, none⟩ (.slice OA on oc)).setCell ⟨gB, 2, none⟩ (.bool false)) Y) => broken_ok (HT.out.st.grow hk).st)
          clear hgn hfw
          go_wp2_with fail
          go_region_held3 (fun w' => w'.cell? ⟨gB, 0, none⟩ = some (.slice OA on oc) ∧ w'.cell? ⟨gB, 2, none⟩ = some (.bool false)) (exact HF.out _ (by repeat (first | exact Keeps.refl [] _ | exact KS.out | refine Keeps.drew ?_)))
            (first
            | (go_at_call 20; refine (HSM.out _ (by repeat (first | exact Keeps.refl [] _ | exact KS.out | refine Keeps.drew ?_))).mono ?_; rintro e wS ⟨rfl, hkS⟩; have KS : Hid (Keeps [] ((w7.setCell ⟨gB, 0, none⟩ (.slice OA on oc)).setCell ⟨gB, 2, none⟩ (.bool false)) wS) := Keeps.trans' (by repeat (first | exact Keeps.refl [] _ | exact KS.out | refine Keeps.drew ?_)) hkS; clear hkS)
            | (go_at_call 21; refine (HBK.out _ (by repeat (first | exact Keeps.refl [] _ | exact KS.out | refine Keeps.drew ?_))).mono ?_; rintro e w' ⟨rfl, rfl⟩))
          all_goals
            go_wp2_with fail
            go_roundw
            case rel => exact ⟨j + 1, _, _, _, _, _, _, _, _, _, _, rfl, rfl, by go_num, by omega, HT.out.grow KS.out⟩
            case measure => simp [intOf]; omega
      by_cases hk5 : xk = 5
      · subst hk5
        have HDK := Lib.hid (fun Y (hk : Keeps [] X Y) => disk_ok (HP.out.st.grow hk).st)
        rw [HP.out.st.dp] at HDK
        cases hb : s.br
        · rw [hb] at u2
          have hcalm : Calm k.dat s.at_ s.turn T := by
            rcases HP.out.mode with ⟨_, h, _⟩ | ⟨h, _⟩
            · exact h
            · rw [hb] at h; cases h
          have HC := Lib.hid hcalm
          obtain ⟨TX, hTX⟩ : ∃ TX, T = TX := ⟨_, rfl⟩
          have HTU : Hid (TX = T ∨ TX = U) := .inl hTX.symm
          have HO := Lib.hid (open_any k X HP.out.st.disk hcalm.holds)
          rw [hTX] at HO HC
          have HX4 := Lib.hid (Keeps.refl [] X)
          have HLEN := Lib.hid HP.out.len
          have HDN := Lib.hid HP.out.done
          have HALL : Hid (∀ b ∈ k.all, b ∈ k.all ∨ X.heap.size ≤ b) := fun b hb => .inl hb
          clear hcalm hb hTX
          go_wp2_with fail
          refine (HDK.out _ (Keeps.refl [] X)).mono ?_
          rintro e w' ⟨rfl, rfl⟩
          go_wp2_with fail
          refine HO.out.mono ?_
          rintro e w6 ⟨p6, m6, rfl, hs6, hm6, hp6, hk6⟩
          have HS6 := Lib.hid hs6
          have HM6 := Lib.hid hm6
          have HP6 := Lib.hid hp6
          have HK46 := Lib.hid hk6
          have HK6 := Lib.hid (HX4.out.trans' hk6)
          have gq := blk_keep HP.out.g HK6.out (by simp)
          have v0 := cell_of_blk gq 0
          have v2 := cell_of_blk gq 2
          clear hs6 hm6 hp6 hk6 HO gq y0 y1 y2 y3 y4 u0 u1 u2 HDK
          have hgn := HP.out.gt.len
          have hfw := HP.out.st.good.few
          have HSA := Lib.hid (same_is GA gn gc T (HS6.out) (HP.out.gt.grow HK6.out) (by omega))
          clear hgn hfw
          by_cases hd : TX = T
          · rw [decide_eq_true hd] at HSA
            have HD := Lib.hid hd
            clear hd
            go_wp2_with fail
            refine HSA.out.mono ?_
            rintro e w7 ⟨rfl, hk7⟩
            have HK7 := Lib.hid (HK46.out.trans' hk7)
            have HX7 := Lib.hid (HK6.out.trans' hk7)
            have gg := blk_keep HP.out.g HX7.out (by simp)
            have gc0 := cell_of_blk gg 0
            have gc2 := cell_of_blk gg 2
            have gf0 := free_of_blk gg 0
            have gf2 := free_of_blk gg 2
            have hg4 := (g_set gg (.bool false)).2
            have k9 := (Keeps.refl [gB] w7).setCell (p := ⟨gB, 2, none⟩) (.inl (by simp)) (.bool false)
            have HT := Lib.hid (PlayI.reopen HP.out HX4.out (HS6.out.grow hk7) HK7.out HC.out HLEN.out HDN.out HALL.out HM6.out HP6.out (XA := GA) (xn := gn) (xc := gc) (by rw [HD.out]; exact HP.out.gt) (by rw [HD.out]; exact HP.out.gs) k9 hg4)
            clear gg hg4 k9 hk7 HSA
            go_wp2_with fail
            have g0 := cell_of_blk HT.out.g 0
            have g2 := cell_of_blk HT.out.g 2
            have HF := Lib.hid (fun Y (hk : Keeps [] (w7.setCell ⟨gB, 2, none⟩ (.bool false)) Y) => And.intro (cell_of_blk (blk_keep HT.out.g hk (by simp)) 0) (cell_of_blk (blk_keep HT.out.g hk (by simp)) 2))
            have hgn := HT.out.gt.len
            have hfw := HT.out.st.good.few
            have HSM := Lib.hid (fun Y (hk : Keeps [] (w7.setCell ⟨gB, 2, none⟩ (.bool false)) Y) => same_self GA gn gc (HT.out.st.grow hk) (HT.out.gt.grow hk) (by omega))
            have HBK := Lib.hid (fun Y (hk : Keeps [] (w7.setCell ⟨gB, 2, none⟩ (.bool false)) Y) => broken_ok (HT.out.st.grow hk).st)
            clear hgn hfw
            go_wp2_with fail
            go_region_held3 (fun w' => w'.cell? ⟨gB, 0, none⟩ = some (.slice GA gn gc) ∧ w'.cell? ⟨gB, 2, none⟩ = some (.bool false)) (exact HF.out _ (by repeat (first | exact Keeps.refl [] _ | exact KS.out | refine Keeps.drew ?_)))
              (first
              | (go_at_call 20; refine (HSM.out _ (by repeat (first | exact Keeps.refl [] _ | exact KS.out | refine Keeps.drew ?_))).mono ?_; rintro e wS ⟨rfl, hkS⟩; have KS : Hid (Keeps [] (w7.setCell ⟨gB, 2, none⟩ (.bool false)) wS) := Keeps.trans' (by repeat (first | exact Keeps.refl [] _ | exact KS.out | refine Keeps.drew ?_)) hkS; clear hkS)
              | (go_at_call 21; refine (HBK.out _ (by repeat (first | exact Keeps.refl [] _ | exact KS.out | refine Keeps.drew ?_))).mono ?_; rintro e w' ⟨rfl, rfl⟩))
            all_goals
              go_wp2_with fail
              go_roundw
              case rel => exact ⟨j + 1, _, _, _, _, _, _, _, _, _, _, rfl, rfl, by go_num, by omega, HT.out.grow KS.out⟩
              case measure => simp [intOf]; omega
          · rw [decide_eq_false hd] at HSA
            have hU : Hid (TX = U) := by rcases HTU.out with h | h; exact absurd h hd; exact h
            clear hd
            go_wp2_with fail
            refine HSA.out.mono ?_
            rintro e w7 ⟨rfl, hk7⟩
            have HK7 := Lib.hid (HK46.out.trans' hk7)
            have HX7 := Lib.hid (HK6.out.trans' hk7)
            have gg := blk_keep HP.out.g HX7.out (by simp)
            have gc0 := cell_of_blk gg 0
            have gc2 := cell_of_blk gg 2
            have gf0 := free_of_blk gg 0
            have gf2 := free_of_blk gg 2
            have hg4 := (g_set (g_set gg (.slice OA on oc)).1 (.bool false)).2
            have k9 := ((Keeps.refl [gB] w7).setCell (p := ⟨gB, 0, none⟩) (.inl (by simp)) (.slice OA on oc)).setCell (p := ⟨gB, 2, none⟩) (.inl (by simp)) (.bool false)
            have HT := Lib.hid (PlayI.reopen HP.out HX4.out (HS6.out.grow hk7) HK7.out HC.out HLEN.out HDN.out HALL.out HM6.out HP6.out (XA := OA) (xn := on) (xc := oc) (by rw [hU.out]; exact HP.out.ot) (by rw [hU.out]; exact HP.out.os) k9 hg4)
            clear gg hg4 k9 hk7 HSA
            go_wp2_with fail
            have g0 := cell_of_blk HT.out.g 0
            have g2 := cell_of_blk HT.out.g 2
            have HF := Lib.hid (fun Y (hk : Keeps [] ((w7.setCell ⟨gB, 0, none⟩ (.slice OA on oc)).setCell ⟨gB, 2, none⟩ (.bool false)) Y) => And.intro (cell_of_blk (blk_keep HT.out.g hk (by simp)) 0) (cell_of_blk (blk_keep HT.out.g hk (by simp)) 2))
            have hgn := HT.out.gt.len
            have hfw := HT.out.st.good.few
            have HSM := Lib.hid (fun Y (hk : Keeps [] ((w7.setCell ⟨gB, 0, none⟩ (.slice OA on oc)).setCell ⟨gB, 2, none⟩ (.bool false)) Y) => same_self OA on oc (HT.out.st.grow hk) (HT.out.gt.grow hk) (by omega))
            have HBK := Lib.hid (fun Y (hk : Keeps [] ((w7.setCell ⟨gB, 0, none⟩ (.slice OA on oc)).setCell ⟨gB, 2, none⟩ (.bool false)) Y) => broken_ok (HT.out.st.grow hk).st)
            clear hgn hfw
            go_wp2_with fail
            go_region_held3 (fun w' => w'.cell? ⟨gB, 0, none⟩ = some (.slice OA on oc) ∧ w'.cell? ⟨gB, 2, none⟩ = some (.bool false)) (exact HF.out _ (by repeat (first | exact Keeps.refl [] _ | exact KS.out | refine Keeps.drew ?_)))
              (first
              | (go_at_call 20; refine (HSM.out _ (by repeat (first | exact Keeps.refl [] _ | exact KS.out | refine Keeps.drew ?_))).mono ?_; rintro e wS ⟨rfl, hkS⟩; have KS : Hid (Keeps [] ((w7.setCell ⟨gB, 0, none⟩ (.slice OA on oc)).setCell ⟨gB, 2, none⟩ (.bool false)) wS) := Keeps.trans' (by repeat (first | exact Keeps.refl [] _ | exact KS.out | refine Keeps.drew ?_)) hkS; clear hkS)
              | (go_at_call 21; refine (HBK.out _ (by repeat (first | exact Keeps.refl [] _ | exact KS.out | refine Keeps.drew ?_))).mono ?_; rintro e w' ⟨rfl, rfl⟩))
            all_goals
              go_wp2_with fail
              go_roundw
              case rel => exact ⟨j + 1, _, _, _, _, _, _, _, _, _, _, rfl, rfl, by go_num, by omega, HT.out.grow KS.out⟩
              case measure => simp [intOf]; omega
        · rw [hb] at u2
          have HT := Lib.hid HP.out.more
          clear hb
          go_wp2_with fail
          refine (HDK.out _ (Keeps.refl [] X)).mono ?_
          rintro e w' ⟨rfl, rfl⟩
          go_wp2_with fail
          go_roundw
          case rel => exact ⟨j + 1, _, _, _, _, _, _, _, _, _, _, rfl, rfl, by go_num, by omega, HT.out⟩
          case measure => simp [intOf]; omega
      · have HT := Lib.hid HP.out.more
        have g0 := cell_of_blk HT.out.g 0
        have g2 := cell_of_blk HT.out.g 2
        have HF := Lib.hid (fun Y (hk : Keeps [] X Y) => And.intro (cell_of_blk (blk_keep HT.out.g hk (by simp)) 0) (cell_of_blk (blk_keep HT.out.g hk (by simp)) 2))
        have hgn := HT.out.gt.len
        have hfw := HT.out.st.good.few
        have HSM := Lib.hid (fun Y (hk : Keeps [] X Y) => same_self GA gn gc (HT.out.st.grow hk) (HT.out.gt.grow hk) (by omega))
        have HBK := Lib.hid (fun Y (hk : Keeps [] X Y) => broken_ok (HT.out.st.grow hk).st)
        clear hgn hfw
        go_wp2_with fail
        go_region_held3 (fun w' => w'.cell? ⟨gB, 0, none⟩ = some (.slice GA gn gc) ∧ w'.cell? ⟨gB, 2, none⟩ = some (.bool s.br)) (exact HF.out _ (by repeat (first | exact Keeps.refl [] _ | exact KS.out | refine Keeps.drew ?_)))
          (first
          | (go_at_call 20; refine (HSM.out _ (by repeat (first | exact Keeps.refl [] _ | exact KS.out | refine Keeps.drew ?_))).mono ?_; rintro e wS ⟨rfl, hkS⟩; have KS : Hid (Keeps [] X wS) := Keeps.trans' (by repeat (first | exact Keeps.refl [] _ | exact KS.out | refine Keeps.drew ?_)) hkS; clear hkS)
          | (go_at_call 21; refine (HBK.out _ (by repeat (first | exact Keeps.refl [] _ | exact KS.out | refine Keeps.drew ?_))).mono ?_; rintro e w' ⟨rfl, rfl⟩))
        all_goals
          go_wp2_with fail
          go_roundw
          case rel => exact ⟨j + 1, _, _, _, _, _, _, _, _, _, _, rfl, rfl, by go_num, by omega, HT.out.grow KS.out⟩
          case measure => simp [intOf]; omega
    · obtain rfl : j = len := by omega
      go_wp2_with fail
      refine (known4_any _).mono ?_
      rintro e w4 ⟨rfl, hk⟩
      have HK4 := Lib.hid hk
      clear hk
      go_wp2_with fail
      go_ret
      exact ⟨rfl, HK1.out.trans' (HI.out.keep.trans' HK4.out)⟩

end Go.Proofs.YtikfpkeffmbnpaaGreat
