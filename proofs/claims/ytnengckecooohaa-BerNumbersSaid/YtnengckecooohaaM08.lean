/- Texts of one proof, laid together: E18 E19 E20 E21 E22 E23. -/
import Derived.Test.YtnengckecooohaaM07
/- ber: the reference's bytes of a value without Items. -/
namespace Go.Proofs.Ytnengckecooohaa
open Go.RowKit Go.Shelf
set_option linter.unusedVariables false
set_option linter.unusedSimpArgs false
set_option maxRecDepth 100000

theorem natL_get : ∀ (i n : Nat), i < (natL n).length → (natL n)[i]? = some (n8 ((n / 256 ^ i : Nat) : Int))
  | 0, n, h => by
    rcases Nat.eq_zero_or_pos n with rfl | hp
    · rw [natL_zero] at h; simp at h
    · rw [natL_pos hp]; simp
  | i + 1, n, h => by
    rcases Nat.eq_zero_or_pos n with rfl | hp
    · rw [natL_zero] at h; simp at h
    · rw [natL_pos hp] at h ⊢
      rw [List.getElem?_cons_succ, natL_get i (n / 256) (by simpa using h), Nat.div_div_eq_div_mul, Nat.pow_succ, Nat.mul_comm]

/-- A byte put to an own row. -/
theorem src_one8 (W : World) (q : Int) (hq : 0 ≤ q ∧ q < 256) : Src (W.alloc (.cells #[.int .u8 q] 5)) (some ⟨W.heap.size, 0, none⟩) 1 [bv (n8 q)] := by
  have h := src_n8 W q
  rw [show q % 256 = q by omega] at h
  exact h

theorem own_two8 (w : World) (o : Obj) (q p : Int) (hq : 0 ≤ q ∧ q < 256) : (((w.alloc o).alloc (.cells #[.int .u8 q] 5)).alloc (.cells #[.int .u8 p] 5)).ownsRow w.heap.size 5 1 (.slice (some ⟨w.heap.size + 1, 0, none⟩) 1 1) 1 ([n8 q].map bv) := by
  have h := (own_one8 (w.alloc o) w.heap.size q hq (by simp)).alloc (.cells #[.int .u8 p] 5)
  rw [show (w.alloc o).heap.size = w.heap.size + 1 by simp] at h
  exact h
theorem src_two8 (w : World) (o : Obj) (q p : Int) (hp : 0 ≤ p ∧ p < 256) : Src (((w.alloc o).alloc (.cells #[.int .u8 q] 5)).alloc (.cells #[.int .u8 p] 5)) (some ⟨w.heap.size + 1 + 1, 0, none⟩) 1 [bv (n8 p)] := by
  have h := src_one8 ((w.alloc o).alloc (.cells #[.int .u8 q] 5)) p hp
  rw [show ((w.alloc o).alloc (.cells #[.int .u8 q] 5)).heap.size = w.heap.size + 1 + 1 by simp] at h
  exact h

set_option maxHeartbeats 1000000 in
theorem rbytes_small (c n : Nat) (A B : Option Addr) (la ca lb cb : Nat) (b : List UInt8) (w : World) (hc : c ≤ 3) (hn : n ≤ 30) (hl : b.length = la) (hla : la < 128) (hb : BytesAt w (.slice A la ca) b) :
    Calls Try.prog 16 #[.agg #[.int .u8 (c : Int), .int .u8 (n : Int), .bool false, .slice A la ca, .slice B lb cb]] w fun e w' => ∃ D d, e = .returned (.slice D (2 + la) d) ∧ BytesAt w' (.slice D (2 + la) d) (n8 (64 * (c : Int) + (n : Int)) :: n8 (la : Int) :: b) ∧ Keeps [] w w' := by
  obtain ⟨iu, hiu, hzu0, hzu1, hzu2⟩ := info_parts u8_info
  have HB := Lib.hid (fun X (hk : Keeps [] w X) => Src.of_bytes (hb.grow hk))
  have HL := Lib.hid hl
  have htag : 0 ≤ 64 * (c : Int) + (n : Int) ∧ 64 * (c : Int) + (n : Int) < 256 := by omega
  clear hb hl
  go_enter Try.func16, Try.ntmps16
  go_wp2_with first
    | (at_builtin; refine wpList_append_opt rfl (.tmp 48) (.tmp 51) 22 rfl w.heap.size 5 iu _ 1 1 Try.underlying22 hiu hzu0 hzu1 hzu2 rfl (by decide) (.slice (some ⟨w.heap.size + 1, 0, none⟩) 1 1) 1 ([n8 (64 * (c : Int) + (n : Int))].map bv) rfl (own_two8 w _ _ _ htag) (some ⟨w.heap.size + 1 + 1, 0, none⟩) 1 1 [bv (n8 (la : Int))] rfl rfl (src_two8 w _ _ _ (by omega)) (by simp [bv_one]) (by unfold maxLen; omega) (by omega) (by simp; omega) ?_; intro v1 w1 ho1 hg1 hs1; obtain ⟨A1, c1, hv1⟩ := own_slice ho1; subst hv1; have HG1 := Lib.hid (keeps_own8 (own_two8 w _ _ _ htag) ((((Keeps.refl [] w).alloc _).alloc _).alloc _) hg1); have HO1 : Hid (w1.ownsRow w.heap.size 5 1 (.slice A1 2 c1) 2 ([n8 (64 * (c : Int) + (n : Int)), n8 (la : Int)].map bv)) := ho1; have hsz1 := HG1.out.size; clear ho1 hg1 hs1)
    | (at_builtin; refine wpList_append_opt rfl (.tmp 82) (.tmp 83) 22 rfl w.heap.size 5 iu _ 1 1 Try.underlying22 hiu hzu0 hzu1 hzu2 rfl (by decide) (.slice A1 2 c1) 2 ([n8 (64 * (c : Int) + (n : Int)), n8 (la : Int)].map bv) rfl HO1.out A la ca (b.map bv) rfl (by rw [List.length_map, HL.out]; omega) (HB.out w1 HG1.out) bvs_one (by unfold maxLen; omega) (by omega) (by omega) ?_; intro v2 w2 ho2 hg2 hs2; obtain ⟨A2, c2, hv2⟩ := own_slice ho2; subst hv2; have HG2 := Lib.hid (keeps_own8 HO1.out HG1.out hg2); rw [← List.map_append] at ho2; have HO2 := Lib.hid ho2; clear ho2 hg2 hs2)
    | fail
  go_ret
  have h9 := HO2.out
  have hlen : ([n8 (64 * (c : Int) + (n : Int)), n8 (la : Int)] ++ b).length = 2 + la := by simp [HL.out]; omega
  refine ⟨_, _, rfl, ?_, HG2.out⟩
  rw [← hlen] at h9 ⊢
  exact BytesAt.of_own h9
set_option maxHeartbeats 1000000 in
theorem rbytes_big (c n : Nat) (A B : Option Addr) (la ca lb cb : Nat) (b : List UInt8) (w : World) (hc : c ≤ 3) (hn : n ≤ 30) (hl : b.length = la) (hla : 128 ≤ la) (hla2 : la ≤ 1000000000) (hb : BytesAt w (.slice A la ca) b) :
    Calls Try.prog 16 #[.agg #[.int .u8 (c : Int), .int .u8 (n : Int), .bool false, .slice A la ca, .slice B lb cb]] w fun e w' => ∃ D d, e = .returned (.slice D (2 + (natL la).length + la) d) ∧ BytesAt w' (.slice D (2 + (natL la).length + la) d) (n8 (64 * (c : Int) + (n : Int)) :: n8 (128 + ((natL la).length : Int)) :: ((natL la).reverse ++ b)) ∧ Keeps [] w w' := by
  obtain ⟨iu, hiu, hzu0, hzu1, hzu2⟩ := info_parts u8_info
  have HB := Lib.hid (fun X (hk : Keeps [] w X) => Src.of_bytes (hb.grow hk))
  have HL := Lib.hid hl
  have htag : 0 ≤ 64 * (c : Int) + (n : Int) ∧ 64 * (c : Int) + (n : Int) < 256 := by omega
  have hk8 : (natL la).length ≤ 8 := natL_len8 (by omega)
  have HM : Hid (∀ X, Calls Try.prog 42 #[.int .i64 (la : Int)] X fun e w' => e = .returned (.int .i64 (((natL la).length : Int) + 1)) ∧ X = w') := fun X => by
    have h9 := many_is la X (by omega)
    rw [lenB_many (by omega), if_neg (by omega), show ((1 + (natL la).length : Nat) : Int) = ((natL la).length : Int) + 1 by omega] at h9
    exact h9
  have HG := Lib.hid (fun i h => natL_get i la h)
  generalize hnl : natL la = nl at *
  have HKN : Hid (∀ j, nl.reverse.take (j + 1) = nl.reverse.take j ++ (nl.reverse[j]?).toList) := fun j => List.take_add_one
  have HRV : Hid (∀ j, j < nl.length → nl.reverse[j]? = nl[nl.length - 1 - j]?) := fun j h => List.getElem?_reverse h
  have HTK : Hid (nl.reverse.take nl.length = nl.reverse) := List.take_of_length_le (by simp)
  have HLR : Hid ((nl.reverse).length = nl.length) := List.length_reverse
  clear hb hl hnl
  generalize hkk : nl.length = kk at *
  clear hkk
  go_enter Try.func16, Try.ntmps16
  go_wp2_with fail
  refine (HM.out _).mono ?_
  rintro e w1 ⟨rfl, rfl⟩
  go_wp2_with (at_builtin; refine wpList_append_opt rfl (.tmp 56) (.tmp 60) 22 rfl w.heap.size 5 iu _ 1 1 Try.underlying22 hiu hzu0 hzu1 hzu2 rfl (by decide) (.slice (some ⟨w.heap.size + 1, 0, none⟩) 1 1) 1 ([n8 (64 * (c : Int) + (n : Int))].map bv) rfl (own_two8 w _ _ _ htag) (some ⟨w.heap.size + 1 + 1, 0, none⟩) 1 1 [bv (n8 (128 + (kk : Int)))] rfl rfl (src_two8 w _ _ _ (by omega)) (by simp [bv_one]) (by unfold maxLen; omega) (by omega) (by simp; omega) ?_; intro v1 w1 ho1 hg1 hs1; obtain ⟨A1, c1, hv1⟩ := own_slice ho1; subst hv1; have HG1 := Lib.hid (keeps_own8 (own_two8 w _ _ _ htag) ((((Keeps.refl [] w).alloc _).alloc _).alloc _) hg1); have HO1 : Hid (w1.ownsRow w.heap.size 5 1 (.slice A1 2 c1) 2 ([n8 (64 * (c : Int) + (n : Int)), n8 (128 + (kk : Int))].map bv)) := ho1; clear ho1 hg1 hs1)
  go_loopw [6, 9] (fun o i wr => ∃ (j : Nat) (A1 : Option Addr) (c1 : Nat), o = .slice A1 (2 + j) c1 ∧ i = .int .i64 ((kk : Int) - 1 - (j : Int)) ∧ j ≤ kk ∧ Hid (wr.ownsRow w.heap.size 5 1 (.slice A1 (2 + j) c1) (2 + j) ((n8 (64 * (c : Int) + (n : Int)) :: n8 (128 + (kk : Int)) :: nl.reverse.take j).map bv)) ∧ Hid (Keeps [] w wr)) (fun _ i _ => (intOf i + 1).toNat)
  case atStart => exact ⟨0, A1, c1, rfl, by go_num, Nat.zero_le _, HO1.out, HG1.out⟩
  case round =>
    obtain ⟨j, A2, c2, rfl, rfl, hj, HO2, HK2⟩ := hrel
    by_cases hjk : j < kk
    · go_wp2_with fail
      obtain ⟨wo, rfl⟩ : ∃ wo : World, wo = wr := ⟨_, rfl⟩
      go_loopw [10, 11] (fun a q wq => ∃ (m k : Nat), a = .int .i64 (m : Int) ∧ q = .int .i64 (k : Int) ∧ k + j + 1 ≤ kk ∧ m ≤ la ∧ Hid (m = la / 256 ^ k) ∧ wq = wo) (fun _ q _ => kk - (intOf q).toNat)
      case atStart => exact ⟨la, 0, rfl, rfl, by omega, Nat.le_refl _, by simp [Hid], rfl⟩
      case round =>
        obtain ⟨m, k, rfl, rfl, hk, hm, HME, rfl⟩ := hrel
        by_cases hkj : k + j + 1 < kk
        · have HME2 : Hid (m / 256 = la / 256 ^ (k + 1)) := by
            show _ = _
            rw [HME.out, Nat.div_div_eq_div_mul, Nat.pow_succ]
          have hm2 : m / 256 ≤ la := Nat.le_trans (Nat.div_le_self _ _) hm
          go_wp2_with fail
          go_roundw
          case rel => exact ⟨m / 256, k + 1, by go_num, by go_num, by omega, hm2, HME2, trivial⟩
          case measure => simp [intOf]; omega
        · have hkq : k = kk - 1 - j := by omega
          have hnx : nl.reverse[j]? = some (n8 (m : Int)) := by
            rw [HRV.out j hjk, HG.out _ (by omega), HME.out, hkq]
          have HT : Hid (nl.reverse.take (j + 1) = nl.reverse.take j ++ [n8 (m : Int)]) := by
            show _ = _
            rw [HKN.out j, hnx]
            rfl
          have hsz := HK2.out.size
          clear hnx
          go_wp2_with (at_builtin; refine wpList_append_opt rfl (.tmp 76) (.tmp 80) 22 rfl w.heap.size 5 iu _ 1 1 Try.underlying22 hiu hzu0 hzu1 hzu2 rfl (by decide) (.slice A2 (2 + j) c2) (2 + j) ((n8 (64 * (c : Int) + (n : Int)) :: n8 (128 + (kk : Int)) :: nl.reverse.take j).map bv) rfl (HO2.out.alloc _) (some ⟨wr.heap.size, 0, none⟩) 1 1 [bv (n8 (m : Int))] rfl rfl (src_n8 wr _) (by simp [bv_one]) (by unfold maxLen; omega) (by omega) (by simp; omega) ?_; intro v3 w3 ho3 hg3 hs3; obtain ⟨A3, c3, hv3⟩ := own_slice ho3; subst hv3; have HG3 := Lib.hid (keeps_own8 (HO2.out.alloc _) (HK2.out.alloc _) hg3); have HO3 : Hid (w3.ownsRow w.heap.size 5 1 (.slice A3 (2 + j + 1) c3) (2 + j + 1) ((n8 (64 * (c : Int) + (n : Int)) :: n8 (128 + (kk : Int)) :: nl.reverse.take (j + 1)).map bv)) := (by rw [HT.out]; have h9 := ho3; rw [show [bv (n8 (m : Int))] = [n8 (m : Int)].map bv from rfl, ← List.map_append] at h9; exact h9); clear ho3 hg3 hs3)
          go_roundw
          case rel => exact ⟨j + 1, A3, c3, rfl, by go_num, by omega, HO3.out, HG3.out⟩
          case measure => simp [intOf]; omega
    · obtain rfl : j = kk := by omega
      rw [HTK.out] at HO2
      have hsz := HK2.out.size
      go_wp2_with (at_builtin; refine wpList_append_opt rfl (.tmp 82) (.tmp 83) 22 rfl w.heap.size 5 iu _ 1 1 Try.underlying22 hiu hzu0 hzu1 hzu2 rfl (by decide) (.slice A2 (2 + j) c2) (2 + j) ((n8 (64 * (c : Int) + (n : Int)) :: n8 (128 + (j : Int)) :: nl.reverse).map bv) rfl HO2.out A la ca (b.map bv) rfl (by rw [List.length_map, HL.out]; omega) (HB.out wr HK2.out) bvs_one (by unfold maxLen; omega) (by omega) (by omega) ?_; intro v4 w4 ho4 hg4 hs4; obtain ⟨A4, c4, hv4⟩ := own_slice ho4; subst hv4; have HG4 := Lib.hid (keeps_own8 HO2.out HK2.out hg4); rw [← List.map_append] at ho4; have HO4 := Lib.hid ho4; clear ho4 hg4 hs4)
      go_ret
      have h9 := HO4.out
      have hlen : ((n8 (64 * (c : Int) + (n : Int)) :: n8 (128 + (j : Int)) :: nl.reverse) ++ b).length = 2 + j + la := by have h1 := HL.out; have h2 := HLR.out; simp at h2 ⊢; omega
      refine ⟨_, _, rfl, ?_, HG4.out⟩
      rw [← hlen] at h9 ⊢
      exact BytesAt.of_own h9

/-- The reference's bytes of a value without Items: a tag, its length's bytes, its own. -/
theorem rbytes_flat (c n : Nat) (A B : Option Addr) (la ca lb cb : Nat) (b : List UInt8) (w : World) (hc : c ≤ 3) (hn : n ≤ 30) (hl : b.length = la) (hla : la ≤ 1000000000) (hb : BytesAt w (.slice A la ca) b) :
    Calls Try.prog 16 #[.agg #[.int .u8 (c : Int), .int .u8 (n : Int), .bool false, .slice A la ca, .slice B lb cb]] w fun e w' => ∃ D d, e = .returned (.slice D (n8 (64 * (c : Int) + (n : Int)) :: lenB la ++ b).length d) ∧ BytesAt w' (.slice D (n8 (64 * (c : Int) + (n : Int)) :: lenB la ++ b).length d) (n8 (64 * (c : Int) + (n : Int)) :: lenB la ++ b) ∧ Keeps [] w w' := by
  by_cases h : la < 128
  · refine (rbytes_small c n A B la ca lb cb b w hc hn hl h hb).mono ?_
    rintro e w' ⟨D, d, rfl, h1, h2⟩
    have e1 : (n8 (64 * (c : Int) + (n : Int)) :: lenB la ++ b).length = 2 + la := by rw [lenB_small h]; simp; omega
    rw [e1, lenB_small h]
    exact ⟨D, d, rfl, h1, h2⟩
  · refine (rbytes_big c n A B la ca lb cb b w hc hn hl (by omega) hla hb).mono ?_
    rintro e w' ⟨D, d, rfl, h1, h2⟩
    have e0 := lenB_big (n := la) (by omega) (by omega)
    have e1 : (n8 (64 * (c : Int) + (n : Int)) :: lenB la ++ b).length = 2 + (natL la).length + la := by rw [e0]; simp; omega
    have e2 : n8 (64 * (c : Int) + (n : Int)) :: lenB la ++ b = n8 (64 * (c : Int) + (n : Int)) :: n8 (128 + ((natL la).length : Int)) :: ((natL la).reverse ++ b) := by
      rw [e0, show ((128 + (natL la).length : Nat) : Int) = 128 + ((natL la).length : Int) by omega]
      simp
    rw [e1, e2]
    exact ⟨D, d, rfl, h1, h2⟩

end Go.Proofs.Ytnengckecooohaa
/- ber: the law's own number off bytes. -/
namespace Go.Proofs.Ytnengckecooohaa
open Go.RowKit Go.Shelf
set_option linter.unusedVariables false
set_option linter.unusedSimpArgs false
set_option maxRecDepth 100000

theorem number5_is (A : Option Addr) (n c : Nat) (xs : List UInt8) (w : World) (hl : xs.length = n) (hn : n ≤ 9223372036854775807) (hb : BytesAt w (.slice A n c) xs) :
    Calls Try.prog 25 #[.slice A n c] w fun e w' => e = .returned (.int .i64 (sgnB (xs.take 8))) ∧ w = w' := by
  have HB := Lib.hid hb
  have HL := Lib.hid hl
  clear hb hl
  go_enter Try.func25, Try.ntmps25
  go_wp2_with fail
  go_loopw [3, 4] (fun v i wr => ∃ (j : Nat) (x : Int), v = .int .i64 x ∧ i = .int .i64 (j : Int) ∧ j ≤ n ∧ j ≤ 8 ∧ (-9223372036854775808 ≤ x ∧ x ≤ 9223372036854775807) ∧ (j = 0 → x = 0) ∧ Hid (0 < j → numZ x ((xs.take 8).drop j) = sgnB (xs.take 8)) ∧ wr = w) (fun _ i _ => n - (intOf i).toNat)
  case atStart => exact ⟨0, 0, rfl, rfl, Nat.zero_le _, by omega, by omega, fun _ => rfl, fun h => by omega, rfl⟩
  case round =>
    obtain ⟨j, x, rfl, rfl, hj, hj8, hx, hx0, HI, rfl⟩ := hrel
    by_cases hlt : j < n ∧ j < 8
    · obtain ⟨hlt, hlt8⟩ := hlt
      obtain ⟨b, o, rfl, hc⟩ := bytes_addr HB.out (by omega)
      obtain ⟨u, hu⟩ : ∃ u, xs[j]? = some u := ⟨_, List.getElem?_eq_getElem (by have := HL.out; omega)⟩
      have hcu := hc j u hu
      have hul : u.toNat < 256 := u.toNat_lt
      have htu : (xs.take 8)[j]? = some u := by rw [List.getElem?_take, if_pos hlt8, hu]
      obtain ⟨hjl, hju⟩ := List.getElem?_eq_some_iff.1 htu
      have hdr : (xs.take 8).drop j = u :: (xs.take 8).drop (j + 1) := by rw [List.drop_eq_getElem_cons hjl, hju]
      have hwu : wrap64 (u.toNat : Int) = (u.toNat : Int) := by unfold wrap64; omega
      rcases Nat.eq_zero_or_pos j with rfl | hjp
      · obtain rfl := hx0 rfl
        have hs : sgnB (xs.take 8) = numZ (if u.toNat < 128 then (u.toNat : Int) else (u.toNat : Int) - 256) ((xs.take 8).drop 1) := by
          rw [List.drop_zero] at hdr
          rw [hdr]
          simp [sgnB]
        rw [Nat.add_zero] at hcu
        by_cases h128 : 128 ≤ u.toNat
        · rw [if_neg (by omega)] at hs
          have HOR : Hid (bits BinOp.or IntKind.i64 (-256) (u.toNat : Int) = (u.toNat : Int) - 256) := by
            show _ = _
            rw [i64_or_low _ _ (by omega) (by omega) (by omega) (by omega) (by omega)]; omega
          have HS := Lib.hid hs
          clear hs hdr hju htu hc hu hjl
          go_wp2_with fail
          first | rw [hwu, HOR.out] | rw [HOR.out] | skip
          go_roundw
          case rel => exact ⟨1, _, rfl, by go_num, by omega, by omega, ⟨by omega, by omega⟩, fun h => by omega, fun _ => HS.out.symm, trivial⟩
          case measure => simp [intOf]; omega
        · rw [if_pos (by omega)] at hs
          have HOR : Hid (bits BinOp.or IntKind.i64 0 (u.toNat : Int) = (u.toNat : Int)) := by
            show _ = _
            rw [i64_or_low _ _ (by omega) (by omega) (by omega) (by omega) (by omega)]; omega
          have HS := Lib.hid hs
          clear hs hdr hju htu hc hu hjl
          go_wp2_with fail
          first | rw [hwu, HOR.out] | rw [HOR.out] | skip
          go_roundw
          case rel => exact ⟨1, _, rfl, by go_num, by omega, by omega, ⟨by omega, by omega⟩, fun h => by omega, fun _ => HS.out.symm, trivial⟩
          case measure => simp [intOf]; omega
      · obtain ⟨z1, z2, z3⟩ := wrap64_256 x
        have hor : bits BinOp.or IntKind.i64 (wrap64 (x * 256)) (u.toNat : Int) = wrap64 (x * 256) + (u.toNat : Int) := i64_or_low _ _ z1 z2 z3 (by omega) (by omega)
        have HN : Hid (0 < j + 1 → numZ (wrap64 (x * 256) + (u.toNat : Int)) ((xs.take 8).drop (j + 1)) = sgnB (xs.take 8)) := by
          intro _
          have h := HI.out hjp
          rw [hdr] at h
          exact h
        have HB2 : Hid (-9223372036854775808 ≤ wrap64 (x * 256) + (u.toNat : Int) ∧ wrap64 (x * 256) + (u.toNat : Int) ≤ 9223372036854775807) := by show _ ∧ _; omega
        have HOR := Lib.hid hor
        clear hc hor z1 z2 z3 hdr hju htu hu hjl
        go_wp2_with fail
        first | rw [hwu, HOR.out] | rw [HOR.out]
        go_roundw
        case rel => exact ⟨j + 1, _, rfl, by go_num, by omega, by omega, HB2.out, fun h => by omega, HN, trivial⟩
        case measure => simp [intOf]; omega
    · have HE : Hid (x = sgnB (xs.take 8)) := by
        rcases Nat.eq_zero_or_pos j with rfl | hjp
        · obtain rfl := hx0 rfl
          have : xs = [] := List.length_eq_zero_iff.1 (by have := HL.out; omega)
          rw [this]; rfl
        · have h := HI.out hjp
          rw [List.drop_of_length_le (by rw [List.length_take]; have := HL.out; omega)] at h
          exact h
      by_cases h1 : j < n
      · have h2 : ¬ j < 8 := fun h => hlt ⟨h1, h⟩
        go_wp2_with fail
        go_ret
        exact ⟨by rw [← HE.out]; rfl, rfl⟩
      · go_wp2_with fail
        go_ret
        exact ⟨by rw [← HE.out]; rfl, rfl⟩

end Go.Proofs.Ytnengckecooohaa
/- ber: a row of values, cloned. -/
namespace Go.Proofs.Ytnengckecooohaa
open Go.RowKit Go.Shelf
set_option linter.unusedVariables false
set_option linter.unusedSimpArgs false
set_option maxRecDepth 100000

theorem ber_info : (Try.prog.info? 25).map (fun i => (i.zero, i.size, i.bytes)) = some (some (.agg #[.int .u8 0, .int .u8 0, .bool false, .slice none 0 0, .slice none 0 0]), 5, 56) := by kernel_rfl

/-- The cells of a row of values. -/
def headsL (hs : List BH) : List Value := hs.flatMap BH.list
theorem headsL_len : ∀ (hs : List BH), (headsL hs).length = hs.length * 5
  | [] => rfl
  | h :: r => by
    have := headsL_len r
    unfold headsL at *
    rw [List.flatMap_cons, List.length_append, this, List.length_cons]
    show 5 + _ = _
    omega
theorem headsL_get : ∀ (hs : List BH) (i q : Nat) (h : BH) (u : Value), hs[i]? = some h → h.list[q]? = some u → (headsL hs)[i * 5 + q]? = some u
  | x :: r, 0, q, h, u, hh, hu => by
    simp at hh
    subst hh
    have hq : q < x.list.length := (List.getElem?_eq_some_iff.1 hu).1
    unfold headsL
    rw [List.flatMap_cons, Nat.zero_mul, Nat.zero_add, List.getElem?_append_left hq]
    exact hu
  | x :: r, i + 1, q, h, u, hh, hu => by
    have h9 := headsL_get r i q h u (by simpa using hh) hu
    unfold headsL at *
    have h5 : x.list.length = 5 := rfl
    rw [List.flatMap_cons, List.getElem?_append_right (by rw [h5]; omega), h5, show (i + 1) * 5 + q - 5 = i * 5 + q by omega]
    exact h9
theorem headsL_inv : ∀ (hs : List BH) (j : Nat) (u : Value), (headsL hs)[j]? = some u → ∃ i q h, j = i * 5 + q ∧ q < 5 ∧ hs[i]? = some h ∧ h.list[q]? = some u
  | [], j, u, h => by simp [headsL] at h
  | x :: r, j, u, h => by
    unfold headsL at h
    rw [List.flatMap_cons] at h
    have h5 : x.list.length = 5 := rfl
    by_cases hj : j < 5
    · rw [List.getElem?_append_left (by rw [h5]; exact hj)] at h
      exact ⟨0, j, x, by omega, hj, rfl, h⟩
    · rw [List.getElem?_append_right (by rw [h5]; omega), h5] at h
      obtain ⟨i, q, y, h1, h2, h3, h4⟩ := headsL_inv r (j - 5) u h
      exact ⟨i + 1, q, y, by omega, h2, by simpa using h3, h4⟩
theorem headsL_one (hs : List BH) : ∀ u ∈ headsL hs, u.oneCell' = true := by
  intro u hu
  obtain ⟨h, _, hm⟩ := List.mem_flatMap.1 hu
  simp [BH.list] at hm
  rcases hm with rfl | rfl | rfl | rfl | rfl <;> rfl

/-- The heads of a row of values. -/
theorem ItemsAt.heads {w : World} {B : Option Addr} : ∀ {i : Nat} {l : List BV}, ItemsAt w B i l → ∃ hs : List BH, hs.length = l.length ∧ (∀ (j : Nat) (t : BV) (h : BH), l[j]? = some t → hs[j]? = some h → BerAt w t h) ∧ (l ≠ [] → ∃ b o, B = some ⟨b, o, none⟩ ∧ ∀ (j : Nat) (h : BH), hs[j]? = some h → ∀ (q : Nat) (u : Value), h.list[q]? = some u → w.cell? ⟨b, o + (i + j) * 5 + q, none⟩ = some u)
  | _, [], _ => ⟨[], rfl, fun j t h hj => by simp at hj, fun h => absurd rfl h⟩
  | i, x :: r, ⟨⟨b, o, h, hB, h2, h3⟩, h4⟩ => by
    obtain ⟨hs, k1, k2, k3⟩ := ItemsAt.heads h4
    refine ⟨h :: hs, by simp [k1], fun j t hh hj hk => ?_, fun _ => ⟨b, o, hB, fun j hh hk q u hu => ?_⟩⟩
    · match j, hj, hk with
      | 0, hj, hk => simp at hj hk; subst hj hk; exact h3
      | j + 1, hj, hk => exact k2 j t hh (by simpa using hj) (by simpa using hk)
    · match j, hk with
      | 0, hk => simp at hk; subst hk; exact h2 q u hu
      | j + 1, hk =>
        have hk' : hs[j]? = some hh := by simpa using hk
        have hlt : j < hs.length := (List.getElem?_eq_some_iff.1 hk').1
        obtain ⟨b', o', hB', h5⟩ := k3 (fun hr => by rw [hr] at k1; simp at k1; rw [k1] at hlt; simp at hlt)
        rw [hB] at hB'
        injection hB' with hB'
        injection hB' with e1 e2 _
        subst e1 e2
        have := h5 j hh hk' q u hu
        rwa [show i + 1 + j = i + (j + 1) by omega] at this
theorem heads_src {w : World} {B : Option Addr} {l : List BV} {hs : List BH} (h1 : hs.length = l.length) (h2 : l ≠ [] → ∃ b o, B = some ⟨b, o, none⟩ ∧ ∀ (j : Nat) (h : BH), hs[j]? = some h → ∀ (q : Nat) (u : Value), h.list[q]? = some u → w.cell? ⟨b, o + (0 + j) * 5 + q, none⟩ = some u) : Src w B l.length (headsL hs) := by
  rcases l with _ | ⟨x, l'⟩
  · refine ⟨fun _ => rfl, fun ad _ j u hu => ?_⟩
    obtain rfl : hs = [] := List.length_eq_zero_iff.1 h1
    simp [headsL] at hu
  · obtain ⟨b, o, hB, hc⟩ := h2 (List.cons_ne_nil _ _)
    subst hB
    refine ⟨fun h => by simp at h, fun ad hA j u hu => ?_⟩
    injection hA with hA
    subst hA
    obtain ⟨i, q, h, rfl, _, hi, hq⟩ := headsL_inv hs j u hu
    have := hc i h hi q u hq
    rw [Nat.zero_add, Nat.add_assoc] at this
    rw [add_at]
    exact this

set_option maxHeartbeats 1000000 in
theorem clonei_is (B : Option Addr) (lb cb : Nat) (l : List BV) (hs : List BH) (w : World) (hl : l.length = lb) (hlb : lb ≤ 1000000000) (h1 : hs.length = l.length) (hsrc : Src w B l.length (headsL hs)) :
    Calls Try.prog 65 #[.slice B lb cb] w fun e w' => ∃ C d, e = .returned (.slice C lb d) ∧ w'.ownsRow w.heap.size 25 5 (.slice C lb d) lb (headsL hs) ∧ Keeps [] w w' := by
  obtain ⟨iu, hiu, hzu0, hzu1, hzu2⟩ := info_parts ber_info
  have HS := Lib.hid hsrc
  have HL := Lib.hid hl
  have HHL := Lib.hid (headsL_len hs)
  have HH1 := Lib.hid h1
  clear hsrc hl h1
  have hq := fun (W : World) (a : Option Addr) (n c : Nat) => Lib.run_eql_slice_nil (P := Try.prog) W 23 25 a n c 0 0 Try.underlying23
  rcases B with _ | ad
  · have hz : lb = 0 := by have := HS.out.1 rfl; have := HL.out; omega
    subst hz
    have hh : hs = [] := List.length_eq_zero_iff.1 (by have := HH1.out; have := HL.out; omega)
    subst hh
    go_enter Try.func65, Try.ntmps65
    go_wp2_with fail
    go_ret
    exact ⟨_, _, rfl, World.ownsRow_nil _ _ _ _, Keeps.refl _ _⟩
  · have HSR : Hid (∀ o, Src (w.alloc o) (some ad) lb (headsL hs)) := fun o => by
      refine ⟨fun h => by simp at h, fun a' ha j u hu => ?_⟩
      have h9 := HS.out.2 a' ha j u hu
      exact (((Keeps.refl [] w).alloc o).cell (lt_of_cell h9) (by simp)).trans h9
    have HHN : Hid ((headsL hs).length = lb * 5) := by show _ = _; rw [HHL.out, HH1.out, HL.out]
    go_enter Try.func65, Try.ntmps65
    go_wp2_with (at_builtin; refine wpList_append_opt rfl (.tmp 5) (.tmp 6) 23 rfl w.heap.size 25 iu _ 5 56 Try.underlying23 hiu hzu0 hzu1 hzu2 rfl (by decide) (.slice (some ⟨w.heap.size, 0, none⟩) 0 0) 0 [] rfl (World.ownsRow_made w #[] 0 (Nat.le_refl _) (by unfold maxLen; omega) rfl) (some ad) lb cb (headsL hs) rfl HHN.out (HSR.out _) (headsL_one hs) (by unfold maxLen; omega) (by omega) (by simp) ?_; intro v1 w1 ho1 hg1 hs1; obtain ⟨A1, c1, hv1⟩ := own_slice ho1; subst hv1; have HG1 := Lib.hid (Keeps.trans ((Keeps.refl [] w).alloc (.cells #[] 25)) (Keeps.of_grown (bs := [w.heap.size]) hg1 (fun x hx => .inl (by simp [Value.ownBlock] at hx; simp [hx]))) (fun y hy => .inr (by rw [List.mem_singleton.1 hy]; exact Nat.le_refl _))); have HO1 : Hid (w1.ownsRow w.heap.size 25 5 (.slice A1 lb c1) lb (headsL hs)) := (by have h9 := ho1; rw [Nat.zero_add, List.nil_append] at h9; exact h9); clear ho1 hg1 hs1)
    go_ret
    exact ⟨_, _, rfl, HO1.out, HG1.out⟩

end Go.Proofs.Ytnengckecooohaa
/- ber: the last of a row of rows, and the row before it. -/
namespace Go.Proofs.Ytnengckecooohaa
open Go.RowKit Go.Shelf
set_option linter.unusedVariables false
set_option linter.unusedSimpArgs false
set_option maxRecDepth 100000

theorem slice_toB (b o n c k : Nat) (hk : k ≤ c) (hnc : n ≤ c) : ∀ W, (Instr.slice 94 (.slice (some ⟨b, o, none⟩) n c) none (some (.int .i64 (k : Int))) none).run Try.prog W = .ok (.slice (some ⟨b, o, none⟩) k c) W := by
  intro W
  rw [run_slice_h W 94 (some ⟨b, o, none⟩) n c (by simp [Program.elem, Try.underlying94]) .i64 _ (by omega) (by omega)]
  rw [show Try.prog.elem 94 = 23 by simp [Program.elem, Try.underlying94], Try.sizeOf23]
  simp [Result.andThen, sliced, add_at]

theorem lasti_is (b o n c : Nat) (v : Value) (w : World) (hn : n + 1 ≤ c) (hc : n ≤ 4611686018427387904) (hv : w.cell? ⟨b, o + n, none⟩ = some v) (A : Option Addr) (la ca : Nat) (hvv : v = .slice A la ca) :
    Calls Try.prog 66 #[.slice (some ⟨b, o, none⟩) (n + 1) c] w fun e w' => e = .returned (.tuple #[v, .slice (some ⟨b, o, none⟩) n c]) ∧ Keeps [] w w' := by
  subst hvv
  have hsl := slice_toB b o (n + 1) c n (by omega) hn
  have hq : wrap64 (((n + 1 : Nat) : Int) - 1) = (n : Int) := by unfold wrap64; omega
  have hlt : (n : Int) < (n : Int) + 1 := by omega
  have mixed : Try.prog.follows .mixedOrders = true := by kernel_rfl
  have hv1 : w.drew.cell? ⟨b, o + n, none⟩ = some (.slice A la ca) := hv
  go_enter Try.func66, Try.ntmps66
  go_wp2_with fail
  go_region_o
  go_wp2_with fail
  go_ret2
  exact ⟨rfl, by first | exact Keeps.refl _ _ | exact (Keeps.refl [] w).drew⟩

end Go.Proofs.Ytnengckecooohaa
/- ber: the last of a row of pairs, and the row before it. -/
namespace Go.Proofs.Ytnengckecooohaa
open Go.RowKit Go.Shelf
set_option linter.unusedVariables false
set_option linter.unusedSimpArgs false
set_option maxRecDepth 100000

theorem slice_toP (b o n c k : Nat) (hk : k ≤ c) (hnc : n ≤ c) : ∀ W, (Instr.slice 90 (.slice (some ⟨b, o, none⟩) n c) none (some (.int .i64 (k : Int))) none).run Try.prog W = .ok (.slice (some ⟨b, o, none⟩) k c) W := by
  intro W
  rw [run_slice_h W 90 (some ⟨b, o, none⟩) n c (by simp [Program.elem, Try.underlying90]) .i64 _ (by omega) (by omega)]
  rw [show Try.prog.elem 90 = 89 by simp [Program.elem, Try.underlying90], Try.sizeOf89]
  simp [Result.andThen, sliced, add_at]

theorem results_row_tmp {fn : Func} {p q : Tmp} {ty : TypeId} (h : fn.results = #[.cell p ty, .tmp q]) (tmps : Array Value) (w : World) (g : Nat) (cs : Array Value)
    (hp : tmps.getD p undef = .pointer (some ⟨g, 0, none⟩)) (hl : (loadVar ty ⟨g, 0, none⟩).run Try.prog w = .ok (.agg cs) w) :
    (results fn tmps).run Try.prog w = .ok (.tuple #[.agg cs, tmps.getD q undef]) w := by
  have hp' : tmps[p]?.getD undef = .pointer (some ⟨g, 0, none⟩) := by simpa using hp
  simp [results, h, hp', asAddr, hl, Sem.run_bind, Result.andThen]

theorem lastp_is (b o n c : Nat) (A B : Option Addr) (la ca lb cb : Nat) (w : World) (hn : n + 1 ≤ c) (hc : n ≤ 4611686018427387904) (hb : b < w.heap.size) (h0 : w.cell? ⟨b, o + n * 2, none⟩ = some (.slice A la ca)) (h1 : w.cell? ⟨b, o + n * 2 + 1, none⟩ = some (.slice B lb cb)) :
    Calls Try.prog 64 #[.slice (some ⟨b, o, none⟩) (n + 1) c] w fun e w' => e = .returned (.tuple #[.agg #[.slice A la ca, .slice B lb cb], .slice (some ⟨b, o, none⟩) n c]) ∧ Keeps [] w w' := by
  have hsl := slice_toP b o (n + 1) c n (by omega) hn
  have hq : wrap64 (((n + 1 : Nat) : Int) - 1) = (n : Int) := by unfold wrap64; omega
  have hlt : (n : Int) < (n : Int) + 1 := by omega
  have mixed : Try.prog.follows .mixedOrders = true := by kernel_rfl
  have late : Try.prog.follows .lateStores = true := by kernel_rfl
  go_enter Try.func64, Try.ntmps64
  go_wp2_with fail
  have hne : b ≠ w.heap.size := by omega
  have g0 := (((Keeps.refl [] w).alloc (.cells #[.slice none 0 0, .slice none 0 0] 89)).cell (lt_of_cell h0) (by simp)).trans h0
  have g1 := (((Keeps.refl [] w).alloc (.cells #[.slice none 0 0, .slice none 0 0] 89)).cell (lt_of_cell h1) (by simp)).trans h1
  have gb : (w.alloc (.cells #[.slice none 0 0, .slice none 0 0] 89)).heap[w.heap.size]? = some (.cells #[.slice none 0 0, .slice none 0 0] 89 (0, 0)) := heap_new8 w _
  have c0 := cell_of_blk gb 0
  have c1 := cell_of_blk gb 1
  have f0 := free_of_blk gb 0
  have f1 := free_of_blk gb 1
  go_region_o
  go_wp2_with fail
  exact bodyPost_ret (results_row_tmp rfl _ _ w.heap.size #[.slice A la ca, .slice B lb cb] rfl (run_loadVar_row _ w.heap.size 89 89 _ (0, 0) _ (heap_new8 w _) Try.underlying89 rfl (by kernel_rfl))) rfl ⟨rfl, ((Keeps.refl [] w).alloc _).drew⟩

end Go.Proofs.Ytnengckecooohaa
/- ber: the reference's flaws. -/
namespace Go.Proofs.Ytnengckecooohaa
open Go.RowKit Go.Shelf
set_option linter.unusedVariables false
set_option linter.unusedSimpArgs false
set_option maxRecDepth 100000

mutual
/-- Has something in a value what may not be? -/
def badB : BV → Bool
  | .mk c n k b l => !stands (.mk c n k b l) || badL l
def badL : List BV → Bool
  | [] => false
  | t :: r => badB t || badL r
end
theorem badL_snoc : ∀ (l : List BV) (t : BV), badL (l ++ [t]) = (badL l || badB t)
  | [], t => by simp [badL]
  | x :: r, t => by simp [badL, badL_snoc r t, Bool.or_assoc]
mutual
/-- How high a value is. -/
def hgtB : BV → Nat
  | .mk _ _ _ _ l => hgtL l + 1
def hgtL : List BV → Nat
  | [] => 0
  | t :: r => max (hgtB t) (hgtL r)
end
theorem hgtL_mem : ∀ (l : List BV) (t : BV), t ∈ l → hgtB t ≤ hgtL l
  | x :: r, t, hm => by
    unfold hgtL
    rcases List.mem_cons.1 hm with hm | hm
    · subst hm; exact Nat.le_max_left _ _
    · exact Nat.le_trans (hgtL_mem r t hm) (Nat.le_max_right _ _)
/-- What may not be, as the reference says it. -/
def flawV (c n : Nat) (k : Bool) (la lb : Nat) : Bool := (decide ((3 : Int) < (c : Int)) || decide ((30 : Int) < (n : Int))) || (k && decide ((0 : Int) < (la : Int))) || (!k && decide ((0 : Int) < (lb : Int)))
theorem flaw_stands (c n : Nat) (k : Bool) (b : List UInt8) (l : List BV) : flawV c n k b.length l.length = !stands (.mk c n k b l) := by
  show flawV c n k b.length l.length = !(decide (c ≤ 3) && (decide (n < 31) && decide ((if k then b.length else l.length) = 0)))
  unfold flawV
  generalize b.length = x
  generalize l.length = y
  have e1 : decide ((3 : Int) < (c : Int)) = !decide (c ≤ 3) := by rw [← decide_not]; congr 1; apply propext; omega
  have e2 : decide ((30 : Int) < (n : Int)) = !decide (n < 31) := by rw [← decide_not]; congr 1; apply propext; omega
  have e3 : ∀ z : Nat, decide ((0 : Int) < (z : Int)) = !decide (z = 0) := fun z => by rw [← decide_not]; congr 1; apply propext; omega
  rw [e1, e2, e3, e3]
  cases k <;> simp only [if_true, if_false, Bool.false_eq_true, reduceIte] <;> cases decide (c ≤ 3) <;> cases decide (n < 31) <;> cases decide (x = 0) <;> cases decide (y = 0) <;> rfl

end Go.Proofs.Ytnengckecooohaa
