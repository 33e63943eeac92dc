/- laid, of the document's own answers: bytes behind some writes. -/
import Derived.Test.YtadpomclnhemoaaD22
namespace Go.Proofs.Ytadpomclnhemoaa
open Go.RowKit
set_option linter.unusedVariables false

theorem laid_in {S xs : List UInt8} {off i : Nat} (hf : off + xs.length ≤ S.length) (h1 : off ≤ i) (h2 : i < off + xs.length) : (laid S off xs)[i]? = xs[i - off]? := by
  have hto : (S.take off).length = off := by simp; omega
  unfold laid
  rw [List.getElem?_append_right (by omega), hto, List.getElem?_append_left (by omega)]

theorem laid_more {T xs : List UInt8} {off c : Nat} (hf : off + xs.length ≤ T.length) (hc : c < xs.length) : (laid T off (xs.take c)).set (off + c) xs[c] = laid T off (xs.take (c + 1)) := by
  apply List.ext_getElem?
  intro i
  have h1 : (xs.take c).length = c := by simp; omega
  have h2 : (xs.take (c + 1)).length = c + 1 := by simp; omega
  have hl : (laid T off (xs.take c)).length = T.length := length_laid (by omega)
  have hto : (T.take off).length = off := by simp; omega
  by_cases hi : i < off
  · rw [List.getElem?_set, if_neg (by omega), laid_get (by omega) (.inl hi), laid_get (by omega) (.inl hi)]
  · by_cases hi2 : i < off + c
    · rw [List.getElem?_set, if_neg (by omega), laid_in (by omega) (by omega) (by omega), laid_in (by omega) (by omega) (by omega), List.getElem?_take, List.getElem?_take, if_pos (by omega), if_pos (by omega)]
    · by_cases hi3 : i = off + c
      · subst hi3
        rw [List.getElem?_set, if_pos rfl, if_pos (by omega)]
        rw [laid_in (by omega) (by omega) (by omega), List.getElem?_take, if_pos (by omega), show off + c - off = c from by omega, List.getElem?_eq_getElem hc]
      · rw [List.getElem?_set, if_neg (by omega), laid_get (by omega) (.inr (by omega)), laid_get (by omega) (.inr (by omega))]

/-- One of a row of writes, whatever its struct's type. -/
theorem pick_of {w : World} {e : TypeId} {A : Option Addr} {n c j : Nat} {W : List Wt} (hr : w.ownsRow 0 e 2 (.slice A n c) n (wcells W)) (hn : W.length = n) (hj : j < n) :
    ∃ g x rest, A = some ⟨g, 0, none⟩ ∧ W = W.take j ++ x :: rest ∧ (W.take j).length = j ∧ W.take (j + 1) = W.take j ++ [x] ∧ x ∈ W ∧ g < w.heap.size ∧ w.cell? ⟨g, j * 2, none⟩ = some (.int .i64 (x.off : Int)) ∧ w.cell? ⟨g, j * 2 + 1, none⟩ = some x.v := by
  obtain ⟨x, rest, hx⟩ : ∃ x rest, W = W.take j ++ x :: rest := by
    refine ⟨W[j]'(by omega), W.drop (j + 1), ?_⟩
    rw [← List.drop_eq_getElem_cons, List.take_append_drop]
  have hlen : (W.take j).length = j := by simp; omega
  have hcs := wcells_at hx
  rw [hlen] at hcs
  obtain ⟨g, cap, hv, _, hgl⟩ := hr.form (by omega)
  injection hv with hv1 _ hv3
  subst hv1
  subst hv3
  have hc0 := hr.cellAt (j * 2) (by omega)
  have hc1 := hr.cellAt (j * 2 + 1) (by omega)
  rw [hcs.1] at hc0
  rw [hcs.2] at hc1
  have hnext : W.take (j + 1) = W.take j ++ [x] := by
    conv => lhs; rw [hx]
    rw [List.take_append, hlen, List.take_of_length_le (by omega), show j + 1 - j = 1 from by omega]
    simp
  exact ⟨g, x, rest, rfl, hx, hlen, hnext, by rw [hx]; simp, hgl, hc0, hc1⟩

theorem layAll_wsnoc (L : List UInt8) (D : List Wt) (x : Wt) : layAll L ((D ++ [x]).map fun y => (y.off, y.xs)) = laid (layAll L (D.map fun y => (y.off, y.xs))) x.off x.xs := by rw [List.map_append]; exact layAll_snoc _ _ _

set_option maxRecDepth 100000 in
set_option maxHeartbeats 4000000 in
theorem reflaid_any (ad : Addr) (n cL : Nat) (AW : Option Addr) (m cW : Nat) (L : List UInt8) (W : List Wt) (w : World) (hn : L.length = n) (hn0 : 0 < n) (hn1 : n ≤ 262144) (hL : BytesAt w (.slice (some ad) n cL) L) (hW : w.ownsRow 0 88 2 (.slice AW m cW) m (wcells W)) (hm : W.length = m) (hm1 : m ≤ 1000000)
    (hfit : ∀ x ∈ W, BytesAt w x.v x.xs ∧ x.off + x.xs.length ≤ n) :
    Calls Try.prog 36 #[.slice (some ad) n cL, .slice AW m cW] w fun e w' => ∃ g c, e = .returned (.slice (some ⟨g, 0, none⟩) n c) ∧ w'.ownsRow w.heap.size 5 1 (.slice (some ⟨g, 0, none⟩) n c) n ((layAll L (W.map fun y => (y.off, y.xs))).map bv) ∧ Below w.heap.size w w' := by
  obtain ⟨iu, hiu, hzu0, hzu1, hzu2⟩ := info_parts u8_info
  have HN := Lib.hid hn
  have HL : Hid (∀ j u, (L.map bv)[j]? = some u → w.cell? (ad.add j) = some u) := hL.cells
  have HW := Lib.hid hW
  have HM := Lib.hid hm
  have HF := Lib.hid hfit
  have HLN : Hid ((L.map bv).length = n * 1) := by show _ = _; simp [hn]
  have hmx : n ≤ maxLen := by unfold maxLen; omega
  clear hL hW hn hm hfit
  go_enter Try.func36, Try.ntmps36
  go_wp2_with (at_builtin; refine wpList_append_own _ rfl _ _ _ rfl w.heap.size 5 iu _ 1 1 Try.underlying29 hiu hzu0 hzu1 hzu2 rfl (by decide) (.slice none 0 0) 0 [] rfl (World.ownsRow_nil w w.heap.size _ _) ad n cL (L.map bv) rfl HLN.out HL.out bvs_one (by omega) (by omega) (Nat.le_refl _) ?_; intro v1 w1 ho1 hg1 _)
  simp only [Nat.zero_add, List.nil_append] at ho1
  obtain ⟨g, c, hv1, hgb, hgl⟩ := ho1.form hn0
  rw [hv1] at ho1 ⊢
  have k1 : Keeps [] w w1 := Keeps.of_grown hg1 (by simp [Value.ownBlock])
  have HO1 := Lib.hid ho1
  have HK1 := Lib.hid k1
  clear ho1 hg1 k1 hv1
  go_wp2_with fail
  go_loopw [6] (fun i wr => ∃ j : Nat, i = .int .i64 (j : Int) ∧ j ≤ m ∧ Hid (wr.ownsRow w.heap.size 5 1 (.slice (some ⟨g, 0, none⟩) n c) n ((layAll L ((W.take j).map fun y => (y.off, y.xs))).map bv)) ∧ Hid (Keeps [g] w1 wr)) (fun i _ => m - (intOf i).toNat)
  case atStart => exact ⟨0, rfl, Nat.zero_le _, by show w1.ownsRow _ _ _ _ _ _; simpa [layAll] using HO1.out, Keeps.refl _ _⟩
  case round =>
    obtain ⟨j, rfl, hj, HO, HK⟩ := hrel
    have hkw : Keeps [] w wr := (HK1.out.mono (cs := []) (by simp)).trans HK.out (by simp; omega)
    have HKW := Lib.hid hkw
    by_cases hlt : j < m
    · obtain ⟨f, x, rx, hAW, hx, hxl, hxn, hxm, hfl, x0, x1⟩ := pick_of (own_keep HW.out hkw (by simp)) HM.out hlt
      subst hAW
      obtain ⟨hxb, hxf⟩ := HF.out x hxm
      have hxb' := hxb.grow hkw
      obtain ⟨Ax, cx, ex, _⟩ := id hxb'
      rw [ex] at x1 hxb'
      have HX := Lib.hid hxb'
      have HXL : Hid (0 < x.xs.length → ∀ b', (Value.slice Ax x.xs.length cx).ownBlock = some b' → b' < w.heap.size) := by
        intro h0 b' hb'
        rw [← ex] at hb'
        exact hxb.lt h0 b' hb'
      have HXN := Lib.hid hxn
      have hlay : (layAll L ((W.take j).map fun y => (y.off, y.xs))).length = n := length_layAll HN.out fun y hy => by
        obtain ⟨z, hz, rfl⟩ := List.mem_map.1 hy
        exact (HF.out z (List.mem_of_mem_take hz)).2
      generalize hTT : layAll L ((W.take j).map fun y => (y.off, y.xs)) = TT at *
      have HTT := Lib.hid hTT
      have HLY := Lib.hid hlay
      have hfg : f ≠ g := by
        intro e
        subst e
        have := (HW.out.lt f rfl).2
        omega
      clear hx hxl hxn hxb hxb' ex hkw hTT hlay
      obtain ⟨wo, rfl⟩ : ∃ wo : World, wo = wr := ⟨_, rfl⟩
      go_wp2_with fail
      go_loopw [7] (fun i wr => ∃ c2 : Nat, i = .int .i64 (c2 : Int) ∧ c2 ≤ x.xs.length ∧ Hid (wr.ownsRow w.heap.size 5 1 (.slice (some ⟨g, 0, none⟩) n c) n ((laid TT x.off (x.xs.take c2)).map bv)) ∧ Hid (Keeps [g] wo wr)) (fun i _ => x.xs.length - (intOf i).toNat)
      case atStart => exact ⟨0, rfl, Nat.zero_le _, by show wo.ownsRow _ _ _ _ _ _; simpa [laid] using HO.out, Keeps.refl _ _⟩
      case round =>
        obtain ⟨c2, rfl, hc2, HO2, HK2⟩ := hrel
        have y0 := (HK2.out.cell (p := ⟨f, j * 2, none⟩) (lt_of_cell x0) (by simpa using hfg)).trans x0
        have y1 := (HK2.out.cell (p := ⟨f, j * 2 + 1, none⟩) (lt_of_cell x1) (by simpa using hfg)).trans x1
        by_cases hlt2 : c2 < x.xs.length
        · have hxw := HX.out.keep HK2.out (fun b hb hm => by rw [List.mem_singleton.1 hm] at hb; have := HXL.out (by omega) g hb; omega)
          obtain ⟨bx, ox, hAx, hcx⟩ := bytes_addr hxw (by omega)
          subst hAx
          have hu : x.xs[c2]? = some x.xs[c2] := List.getElem?_eq_getElem hlt2
          have z0 := hcx c2 _ hu
          have hz1 := HO2.out.cellAt (x.off + c2) (by omega)
          obtain ⟨old, hold⟩ : ∃ old, ((laid TT x.off (x.xs.take c2)).map bv)[x.off + c2]? = some old := by
            have hl2 : ((laid TT x.off (x.xs.take c2)).map bv).length = n := by
              rw [List.length_map, length_laid (by have := HLY.out; simp; omega)]; exact HLY.out
            exact ⟨_, List.getElem?_eq_getElem (by omega)⟩
          have z1 := hz1.trans hold
          have z2 := HO2.out.frozenAt (x.off + c2)
          have hs := HO2.out.stored (x.off + c2) (bv x.xs[c2])
          have e3 : ((laid TT x.off (x.xs.take c2)).map bv).set (x.off + c2) (bv x.xs[c2]) = (laid TT x.off (x.xs.take (c2 + 1))).map bv := by
            rw [← laid_more (by have := HLY.out; omega) hlt2, List.map_set]
          rw [e3] at hs
          have HS3 : Hid ((wr.setCell ⟨g, x.off + c2, none⟩ (.int .u8 (x.xs[c2].toNat : Int))).ownsRow w.heap.size 5 1 (.slice (some ⟨g, 0, none⟩) n c) n ((laid TT x.off (x.xs.take (c2 + 1))).map bv)) := hs.1
          have HK3 : Hid (Keeps [g] wo (wr.setCell ⟨g, x.off + c2, none⟩ (.int .u8 (x.xs[c2].toNat : Int)))) := HK2.out.setCell (by simp) _
          have i1 : 0 ≤ (c2 : Int) := by omega
          have i2 : (c2 : Int) < (x.xs.length : Int) := by omega
          have i3 : 0 ≤ (j : Int) := by omega
          have i4 : (j : Int) < (m : Int) := by omega
          have i5 : 0 ≤ (x.off : Int) + (c2 : Int) := by omega
          have i6 : (x.off : Int) + (c2 : Int) < (n : Int) := by omega
          have i7 : ((x.off : Int) + (c2 : Int)).toNat = x.off + c2 := by omega
          have wr2 : IntKind.i64.wrap ((x.off : Int) + (c2 : Int)) = (x.off : Int) + (c2 : Int) := IntWalk.i64_in _ (by omega)
          clear hxw hcx hu hz1 hold hs e3
          generalize x.xs[c2].toNat = un at *
          go_wp2_with fail
          refine region_tail 17 (by kernel_rfl) (by kernel_rfl) ?_
          simp only [List.take_succ_cons, List.take_zero, List.drop_succ_cons, List.drop_zero]
          repeat still_step
          refine wpStill_nil ?_
          clear wr2 i7
          go_wp2_with fail
          go_roundw
          case rel => exact ⟨c2 + 1, by go_num, by omega, HS3.out.drew, HK3.out.drew⟩
          case measure => simp [intOf]; omega
        · have hcc : c2 = x.xs.length := by omega
          have HE : Hid (laid TT x.off (x.xs.take c2) = layAll L ((W.take (j + 1)).map fun y => (y.off, y.xs))) := by
            show _ = _
            rw [HXN.out, layAll_wsnoc, HTT.out, List.take_of_length_le (by omega)]
          clear hcc
          go_wp2_with fail
          go_roundw
          case rel => exact ⟨j + 1, by go_num, by omega, by rw [← HE.out]; exact HO2, HK.out.trans' HK2.out⟩
          case measure => simp [intOf]; omega
    · go_wp2_with fail
      go_ret
      have hjm : j = m := by omega
      have ho := HO.out
      rw [List.take_of_length_le (by have := HM.out; omega)] at ho
      exact ⟨g, c, rfl, ho, HKW.out.below (Nat.le_refl _) (by simp)⟩

end Go.Proofs.Ytadpomclnhemoaa
