/- CrcBits, from what Sum and Step answer. -/
import Derived.Test.YtjcfdakcihhblaaK9
import Derived.Test.YtjcfdakcihhblaaK3
namespace Go.Proofs.Ytjcfdakcihhblaa
open Go.RowKit
set_option linter.unusedVariables false

theorem shr_bit (m j : Nat) : (((m : Int) / 2 ^ j).tmod 2 == 1) = m.testBit j := by
  have h1 : ((m : Int) / 2 ^ j) = ((m / 2 ^ j : Nat) : Int) := by
    rw [Int.natCast_ediv, Int.natCast_pow]
    rfl
  rw [h1, Nat.testBit_eq_decide_div_mod_eq]
  generalize m / 2 ^ j = x
  rw [Int.tmod_eq_emod_of_nonneg (by omega)]
  by_cases h : x % 2 = 1
  · rw [decide_eq_true h]
    simp
    omega
  · rw [decide_eq_false h]
    simp
    omega

theorem two_pow_lt {e : Nat} (h : e < 8) : 2 ^ e < 256 := by
  have := Nat.pow_lt_pow_right (show 1 < 2 by decide) h
  exact this

theorem crcbits_out (HS0 : SumOk) (HT0 : StepOk) (A : Option Addr) (n c : Nat) (a m : Int) (w : World) (hm : n ≤ 9223372036854775807) (ho : 2000 < n ∨ a < 0 ∨ 8 * (n : Int) ≤ a ∨ m = 0) :
    Calls Try.prog 5 #[.slice A n c, .int .i64 a, .int .u32 m] w fun e w' => e = .returned (.bool true) ∧ Keeps [] w w' := by
  have KN := fun W => Lib.hid (known2_any HS0 HT0 W)
  clear HS0 HT0
  by_cases o1 : 2000 < n
  · clear ho
    go_enter Try.func5, Try.ntmps5
    go_wp2_with (go_at_call 8; refine (KN _).out.mono ?_; rintro e w1 ⟨rfl, hk1⟩; have K1 := Lib.hid hk1; clear hk1)
    go_ret
    exact ⟨rfl, K1.out⟩
  by_cases o2 : a < 0
  · clear ho
    go_enter Try.func5, Try.ntmps5
    go_wp2_with (go_at_call 8; refine (KN _).out.mono ?_; rintro e w1 ⟨rfl, hk1⟩; have K1 := Lib.hid hk1; clear hk1)
    go_ret
    exact ⟨rfl, K1.out⟩
  by_cases o3 : 8 * (n : Int) ≤ a
  · clear ho
    go_enter Try.func5, Try.ntmps5
    go_wp2_with (go_at_call 8; refine (KN _).out.mono ?_; rintro e w1 ⟨rfl, hk1⟩; have K1 := Lib.hid hk1; clear hk1)
    go_ret
    exact ⟨rfl, K1.out⟩
  have o4 : m = 0 := by omega
  subst o4
  clear ho
  go_enter Try.func5, Try.ntmps5
  go_wp2_with (go_at_call 8; refine (KN _).out.mono ?_; rintro e w1 ⟨rfl, hk1⟩; have K1 := Lib.hid hk1; clear hk1)
  go_ret
  exact ⟨rfl, K1.out⟩

set_option maxHeartbeats 2000000 in
theorem crcbits_in (HS0 : SumOk) (HT0 : StepOk) (A : Option Addr) (n c : Nat) (xs : List UInt8) (a m : Nat) (w : World) (hb : BytesAt w (.slice A n c) xs) (hn : xs.length = n) (h1 : n ≤ 2000) (h2 : a < 8 * n) (h3 : m ≠ 0) (h4 : m < 4294967296) :
    Calls Try.prog 5 #[.slice A n c, .int .i64 (a : Int), .int .u32 (m : Int)] w fun e w' => e = .returned (.bool true) ∧ Keeps [] w w' := by
  have KN := fun W => Lib.hid (known2_any HS0 HT0 W)
  have HS := Lib.hid HS0
  have SB := Lib.hid (Src.of_bytes hb)
  have HB := Lib.hid hb
  have HN := Lib.hid hn
  have e3 : ((m : Int) == 0) = false := by simp; omega
  obtain ⟨iu, hiu, hzu0, hzu1, hzu2⟩ := info_parts u8_of
  clear HS0 HT0 hb hn h3
  go_enter Try.func5, Try.ntmps5
  go_wp2_with (first
    | (at_builtin; refine wpList_append_opt rfl (.const (.slice none 0 0)) (.tmp 29) 28 rfl w.heap.size 5 iu _ 1 1 Try.underlying28 hiu hzu0 hzu1 hzu2 rfl (by decide) (.slice none 0 0) 0 [] rfl (World.ownsRow_nil _ _ _ _) A n c (xs.map bv) rfl (by have := HN.out; simp; omega) SB.out bvs_one (by unfold maxLen; omega) (by omega) (Nat.le_refl _) ?_; intro v2 w2 ho2 hg2 hs2; have HO2 := Lib.hid ho2; have HG2 := Lib.hid hg2; clear ho2 hg2 hs2))
  have hn := HN.out
  obtain ⟨g, d, hv, hgb, hgl⟩ : ∃ g d, v2 = .slice (some ⟨g, 0, none⟩) n d ∧ w.heap.size ≤ g ∧ g < w2.heap.size := by
    obtain ⟨g, d, hv, h5, h6⟩ := HO2.out.form (by omega)
    rw [Nat.zero_add] at hv
    exact ⟨g, d, hv, h5, h6⟩
  subst hv
  have HO3 : Hid (w2.ownsRow w.heap.size 5 1 (.slice (some ⟨g, 0, none⟩) n d) n (xs.map bv)) := by
    have := HO2.out
    simp only [Nat.zero_add, List.nil_append] at this
    exact this
  have HK2 : Hid (Keeps [] w w2) := Keeps.of_grown HG2.out (by simp [Value.ownBlock])
  clear HO2 HG2 SB
  go_loopw [8, 9] (fun tb i wr => ∃ (j : Nat) (o : List UInt8) (tv : Bool), tb = .bool tv ∧ i = .int .i64 (j : Int) ∧ j ≤ 32 ∧ Hid (Turned xs o a m j) ∧ Hid (tv = true → ∃ i, i < j ∧ m.testBit i = true ∧ a + i < 8 * n) ∧ Hid (wr.ownsRow w.heap.size 5 1 (.slice (some ⟨g, 0, none⟩) n d) n (o.map bv)) ∧ Hid (Keeps [] w wr)) (fun _ i _ => 32 - (intOf i).toNat)
  case atStart => exact ⟨0, xs, false, rfl, rfl, by omega, Turned.start xs a m, fun h => (by cases h), HO3, HK2⟩
  case round =>
    obtain ⟨j, o, tv, rfl, rfl, hj, HT, HV, HO, HK⟩ := hrel
    by_cases hlt : j < 32 ∧ a + j < 8 * n
    · obtain ⟨l1, l2⟩ := hlt
      have hb0 := shr_bit m j
      by_cases hbit : m.testBit j = true
      · rw [hbit] at hb0
        have hlo : o.length = n := by rw [HT.out.len]; exact hn
        obtain ⟨u, hu⟩ : ∃ u, o[(a + j) / 8]? = some u := ⟨_, List.getElem?_eq_getElem (by omega)⟩
        have z1 : wr.cell? ⟨g, (a + j) / 8, none⟩ = some (.int .u8 (u.toNat : Int)) := by
          rw [HO.out.cellAt ((a + j) / 8) (by omega), List.getElem?_map, hu]
          rfl
        have z2 := HO.out.frozenAt ((a + j) / 8)
        have w1 : IntKind.i64.wrap ((a : Int) + (j : Int)) = (a : Int) + (j : Int) := IntWalk.i64_in _ (by omega)
        have q1 : IntKind.i64.wrap (((a : Int) + (j : Int)).tdiv 8) = (((a + j) / 8 : Nat) : Int) := by
          have h10 : ((a : Int) + (j : Int)).tdiv 8 = (((a + j) / 8 : Nat) : Int) := by
            rw [Int.tdiv_eq_ediv_of_nonneg (by omega)]
            omega
          rw [h10]
          exact IntWalk.i64_in _ (by omega)
        have r1 : ((a : Int) + (j : Int)).tmod 8 = (((a + j) % 8 : Nat) : Int) := by
          rw [Int.tmod_eq_emod_of_nonneg (by omega)]
          omega
        have ht8 := two_pow_lt (show (a + j) % 8 < 8 by omega)
        have s1 : (2 : Int) ^ ((a + j) % 8) % 256 = ((2 ^ ((a + j) % 8) : Nat) : Int) := by
          have h9 : ((2 : Int) ^ ((a + j) % 8)) = ((2 ^ ((a + j) % 8) : Nat) : Int) := by
            rw [Int.natCast_pow]
            rfl
          rw [h9]
          generalize 2 ^ ((a + j) % 8) = t8 at ht8
          omega
        have hu8 := u.toNat_lt
        have x1 := u8_xor_nat u.toNat (2 ^ ((a + j) % 8)) hu8 ht8
        have hy8 : u.toNat ^^^ 2 ^ ((a + j) % 8) < 256 := Nat.xor_lt_two_pow (n := 8) hu8 ht8
        obtain ⟨y, hy⟩ : ∃ y : UInt8, y.toNat = u.toNat ^^^ 2 ^ ((a + j) % 8) := ⟨UInt8.ofNat (u.toNat ^^^ 2 ^ ((a + j) % 8)), by rw [UInt8.toNat_ofNat']; omega⟩
        have ip : (a + j) / 8 < n := by omega
        have HT2 := Lib.hid (HT.out.flip hbit hu hy)
        have HV2 : Hid (∃ i, i < j + 1 ∧ m.testBit i = true ∧ a + i < 8 * n) := ⟨j, by omega, hbit, l2⟩
        have HO2 : Hid ((wr.setCell ⟨g, (a + j) / 8, none⟩ (.int .u8 (y.toNat : Int))).ownsRow w.heap.size 5 1 (.slice (some ⟨g, 0, none⟩) n d) n ((o.set ((a + j) / 8) y).map bv)) := by
          have h9 := (HO.out.stored ((a + j) / 8) (bv y)).1
          rw [← List.map_set] at h9
          exact h9
        have HK3 : Hid (Keeps [] w (wr.setCell ⟨g, (a + j) / 8, none⟩ (.int .u8 (y.toNat : Int)))) := HK.out.trans ((Keeps.refl [g] wr).setCell (by simp) _) (fun z hz => .inr (by rw [List.mem_singleton] at hz; omega))
        rw [← hy] at x1
        generalize y.toNat = yn at *
        generalize u.toNat = un at *
        generalize 2 ^ ((a + j) % 8) = t8 at *
        generalize (a + j) / 8 = p at *
        clear hu hy hlo hbit
        go_wp2_with fail
        go_region_with (fail)
        all_goals
          go_wp2_with fail
          go_roundw
          case rel =>
            rw [s1, x1]
            exact ⟨j + 1, o.set p y, true, rfl, by go_num, by omega, HT2, fun _ => HV2.out, own_keep HO2.out (Keeps.refl [] _).drew (by simp), HK3.out.drew⟩
          case measure => simp [intOf]; omega
      · have hbit' : m.testBit j = false := by simpa using hbit
        rw [hbit'] at hb0
        have HT2 := Lib.hid (HT.out.stay hbit')
        have HV2 : Hid (tv = true → ∃ i, i < j + 1 ∧ m.testBit i = true ∧ a + i < 8 * n) := fun h => by
          obtain ⟨i, h1, h2⟩ := HV.out h
          exact ⟨i, by omega, h2⟩
        go_wp2_with fail
        go_roundw
        case rel => exact ⟨j + 1, o, tv, rfl, by go_num, by omega, HT2, HV2, HO, HK⟩
        case measure => simp [intOf]; omega
    · cases tv with
      | false =>
        go_wp2_with (go_at_call 8; refine (KN _).out.mono ?_; rintro e w3 ⟨rfl, hk3⟩; have K3 := Lib.hid (HK.out.trans' hk3); clear hk3)
        all_goals
          go_ret
          exact ⟨rfl, K3.out⟩
      | true =>
        have hd : crcSum o ≠ crcSum xs := by
          obtain ⟨i, i1, i2, i3⟩ := HV.out rfl
          exact HT.out.differs hj i1 i2 (by rw [hn]; exact i3)
        have hlo : o.length = n := by rw [HT.out.len]; exact hn
        have BO : Hid (BytesAt wr (.slice (some ⟨g, 0, none⟩) n d) o) := by
          have h9 := HO.out
          rw [← hlo] at h9 ⊢
          exact BytesAt.of_own h9
        have P1 : Hid (PartsAt (wr.alloc (.cells #[.slice (some ⟨g, 0, none⟩) n d] 28)) (some ⟨wr.heap.size, 0, none⟩) 1 [⟨some ⟨g, 0, none⟩, d, o⟩]) := by
          have h9 := BO.out
          rw [← hlo] at h9 ⊢
          exact one_part h9 (by omega)
        have hne : (((crcSum o : Nat) : Int) != ((crcSum xs : Nat) : Int)) = true := by
          simp
          omega
        have n1 : (List.flatMap (fun x : Part => x.bs) [⟨some ⟨g, 0, none⟩, d, o⟩]) = o := by simp
        have n2 : (List.flatMap (fun x : Part => x.bs) [⟨A, c, xs⟩]) = xs := by simp
        have t1 : total [⟨some ⟨g, 0, none⟩, d, o⟩] ≤ 3000 := by simp [total]; omega
        have t2 : total [⟨A, c, xs⟩] ≤ 3000 := by simp [total]; omega
        have S1 := Lib.hid (HS.out _ _ 1 _ _ P1.out (by decide) t1)
        rw [n1] at S1
        clear hd P1 BO hlo n1
        go_wp2_with fail
        all_goals
          refine S1.out.mono ?_
          rintro e w3 ⟨rfl, hk3⟩
          have K3 := Lib.hid ((HK.out.alloc _).trans' hk3)
          have P2 : Hid (PartsAt (w3.alloc (.cells #[.slice A n c] 28)) (some ⟨w3.heap.size, 0, none⟩) 1 [⟨A, c, xs⟩]) := by
            have h9 := HB.out.grow K3.out
            rw [← hn] at h9 ⊢
            exact one_part h9 (by omega)
          have S2 := Lib.hid (HS.out _ _ 1 _ _ P2.out (by decide) t2)
          rw [n2] at S2
          clear hk3 P2 S1
          go_wp2_with fail
          refine S2.out.mono ?_
          rintro e w4 ⟨rfl, hk4⟩
          have K4 := Lib.hid ((K3.out.alloc _).trans' hk4)
          clear hk4 S2
          go_wp2_with fail
          refine (KN _).out.mono ?_
          rintro e w5 ⟨rfl, hk5⟩
          have K5 := Lib.hid (K4.out.trans' hk5)
          clear hk5
          go_wp2_with fail
          go_ret
          exact ⟨rfl, K5.out⟩

theorem crcbits_any (HS0 : SumOk) (HT0 : StepOk) (A : Option Addr) (n c : Nat) (xs : List UInt8) (a : Int) (m : Nat) (w : World) (hb : BytesAt w (.slice A n c) xs) (hn : xs.length = n) (hm : n ≤ 9223372036854775807) (h4 : m < 4294967296) :
    Calls Try.prog 5 #[.slice A n c, .int .i64 a, .int .u32 (m : Int)] w fun e w' => e = .returned (.bool true) ∧ Below w.heap.size w w' := by
  by_cases ho : 2000 < n ∨ a < 0 ∨ 8 * (n : Int) ≤ a ∨ (m : Int) = 0
  · exact (crcbits_out HS0 HT0 A n c a m w hm ho).mono fun _ _ ⟨h1, h2⟩ => ⟨h1, h2.below (Nat.le_refl _) (by simp)⟩
  · obtain ⟨k, rfl⟩ := Int.eq_ofNat_of_zero_le (show 0 ≤ a by omega)
    exact (crcbits_in HS0 HT0 A n c xs k m w hb hn (by omega) (by omega) (by omega) h4).mono fun _ _ ⟨h1, h2⟩ => ⟨h1, h2.below (Nat.le_refl _) (by simp)⟩

end Go.Proofs.Ytjcfdakcihhblaa
