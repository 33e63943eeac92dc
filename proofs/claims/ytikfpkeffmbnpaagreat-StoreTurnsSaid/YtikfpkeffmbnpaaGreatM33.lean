/- Texts of one proof, laid together: U42 U43. -/
import Derived.Test.YtikfpkeffmbnpaaGreatM32
import Derived.Deep.RegionHeld3
/- StoreTurns, where it fits. -/
namespace Go.Proofs.YtikfpkeffmbnpaaGreat
open Go.RowKit Go.Shelf Go.Maps
set_option linter.unusedVariables false
set_option linter.unusedSimpArgs false
set_option maxRecDepth 100000

set_option maxHeartbeats 4000000 in
theorem turns_yes (size n long : Nat) (w : World) (h1 : 256 ≤ size) (h2 : size ≤ 2000) (h3 : n ≤ 200) (h4 : long ≤ 60) (h5 : 17 + long + 64 ≤ size / 2) :
    Calls Tryz.prog 8 #[.int .i64 (size : Int), .int .i64 (n : Int), .int .i64 (long : Int)] w fun e w' => e = .returned (.bool true) ∧ Keeps [] w w' := by
  have q1 : ¬ (size : Int) < 256 := by omega
  have q2 : ¬ (2000 : Int) < (size : Int) := by omega
  have q3 : ¬ (n : Int) < 0 := by omega
  have q4 : ¬ (200 : Int) < (n : Int) := by omega
  have q5 : ¬ (long : Int) < 0 := by omega
  have q6 : ¬ (60 : Int) < (long : Int) := by omega
  have q7 : ¬ (size : Int).tdiv 2 < 17 + (long : Int) + 64 := by rw [Int.tdiv_eq_ediv_of_nonneg (by omega)]; omega
  have wd : IntKind.i64.wrap ((size : Int).tdiv 2) = (size : Int).tdiv 2 := IntWalk.i64_in _ (by rw [Int.tdiv_eq_ediv_of_nonneg (by omega)]; omega)
  have HNEW := Lib.hid (new_yes size w (by omega) (by omega))
  obtain ⟨sz, hsz⟩ : ∃ sz : Int, (size : Int) = sz := ⟨_, rfl⟩
  obtain ⟨lg, hlg⟩ : ∃ lg : Int, (long : Int) = lg := ⟨_, rfl⟩
  rw [hsz] at q1 q2 q7 wd HNEW ⊢
  rw [hlg] at q5 q6 q7 ⊢
  obtain ⟨iu, hiu, hzu0, hzu1, hzu2⟩ := info_parts u8_info
  have hib : iu.bytes * long ≤ 281474976710656 := by rw [hzu2]; omega
  have hml : long ≤ maxLen := by unfold maxLen; omega
  go_enter Tryz.func8, Tryz.ntmps8
  go_wp2_with fail
  clear q1 q2 q3 q4 q5 q6 q7 wd
  subst hsz
  subst hlg
  refine HNEW.out.mono ?_
  rintro e w1 ⟨k, rfl, hd, e1, e2, e3, e4, e5, e6, e7, e8⟩
  have hc := calm_new h1 e1 e2 e3 e4
  have hlen : k.S.length = size := by rw [e1, List.length_replicate]
  have HO := Lib.hid (open_any k w1 hd hc.holds)
  have HK1 := Lib.hid e8
  have HC := Lib.hid hc
  have HN := Lib.hid e7
  clear hd e1 e2 e3 e7 e8 hc HNEW
  go_wp2_with fail
  refine HO.out.mono ?_
  rintro e w2 ⟨p, m, rfl, hs, hm, hp, hk⟩
  have hpl : w.heap.size ≤ p := by have := HK1.out.size; omega
  have HT0 : Hid (TurnI w p k.p size 0 w2 ⟨p, size / 2, 0, m, k.p, false⟩ k []) := ⟨hs, rfl, rfl, rfl, HC.out, hlen, e4, e5, by omega, .inl rfl, HN.out, HK1.out.trans' hk, hpl⟩
  generalize hkp : k.p = kp at *
  clear hs hm hk HO HC HN e4 e5 e6 hlen hp HK1
  go_wp2_with fail
  go_loopw [11] (fun i wr => ∃ j : Nat, i = .int .i64 (j : Int) ∧ j ≤ n ∧ Hid (∃ s k T, TurnI w p kp size j wr s k T)) (fun i _ => n - (intOf i).toNat)
  case atStart => exact ⟨0, rfl, Nat.zero_le _, _, _, _, HT0.out⟩
  case round =>
    obtain ⟨j, rfl, hj, HI⟩ := hrel
    by_cases hlt : j < n
    · obtain ⟨wo, rfl⟩ : ∃ wo : World, wo = wr := ⟨_, rfl⟩
      go_wp2_with (at_make; refine wpList_make_full _ rfl _ _ _ rfl 0 5 iu (.int .u8 0) 1 Tryz.underlying53 hiu hzu0 hzu1 .i64 .i64 _ _ long rfl rfl rfl rfl hib hml (Nat.zero_le _) ?_; intro w3 hown hg3)
      have HO3 := Lib.hid (made_own hown)
      have HK3 : Hid (Keeps [] wo w3) := Keeps.of_grown hg3 (by simp)
      clear hown hg3
      go_wp2_with fail
      go_loopw [13] (fun i wq => ∃ c2 xs, i = .int .i64 ((c2 : Nat) : Int) ∧ c2 ≤ long ∧ Hid (List.length (α := UInt8) xs = long) ∧ Hid (wq.ownsRow 0 5 1 (.slice (some ⟨wo.heap.size, 0, none⟩) long long) long (xs.map bv)) ∧ Hid (Keeps [wo.heap.size] w3 wq)) (fun i _ => long - (intOf i).toNat)
      case atStart => exact ⟨0, _, rfl, Nat.zero_le _, by simp [Hid], HO3.out, Keeps.refl _ _⟩
      case round =>
        obtain ⟨c2, xs, rfl, hc2, HX, HO2, HK2⟩ := hrel
        by_cases hlt2 : c2 < long
        · have z0 : (0 : Int) ≤ (c2 : Int) := by omega
          have z1 : (c2 : Int) < (long : Int) := by omega
          have hold := HO2.out.cellAt c2 (by omega)
          obtain ⟨old, hold2⟩ : ∃ old, (xs.map bv)[c2]? = some old := ⟨_, List.getElem?_eq_getElem (by rw [List.length_map]; have := HX.out; omega)⟩
          have zc := hold.trans hold2
          have zf := HO2.out.frozenAt c2
          obtain ⟨y, hy⟩ : ∃ y : UInt8, (y.toNat : Int) = 97 + ((j : Int) + (c2 : Int)) % 26 := ⟨UInt8.ofNat (97 + (j + c2) % 26), by rw [UInt8.toNat_ofNat']; omega⟩
          have HO3 : Hid ((wr.setCell ⟨wo.heap.size, c2, none⟩ (.int .u8 (y.toNat : Int))).ownsRow 0 5 1 (.slice (some ⟨wo.heap.size, 0, none⟩) long long) long ((xs.set c2 y).map bv)) := by
            have h9 := (HO2.out.stored c2 (bv y)).1
            rw [← List.map_set] at h9
            exact h9
          have HK3 : Hid (Keeps [wo.heap.size] w3 (wr.setCell ⟨wo.heap.size, c2, none⟩ (.int .u8 (y.toNat : Int)))) := HK2.out.setCell (by simp) _
          have HXS : Hid ((xs.set c2 y).length = long) := by show _ = _; rw [List.length_set]; exact HX.out
          rw [hy] at HO3 HK3
          clear hold hold2 hy
          go_wp2_with fail
          go_roundw
          case rel => exact ⟨c2 + 1, xs.set c2 y, by go_num, by omega, HXS, HO3, HK3⟩
          case measure => simp [intOf]; omega
        · obtain rfl : c2 = long := by omega
          have hb3 : BytesAt wr (.slice (some ⟨wo.heap.size, 0, none⟩) c2 c2) xs := (own_bytes HO2.out HX.out).1
          have k03 : Keeps [] wo wr := HK3.out.trans HK2.out (fun x hx => .inr (by rw [List.mem_singleton.1 hx]; exact Nat.le_refl _))
          have cv := conv_bytes hb3
          obtain ⟨s, k, T, hi⟩ := HI.out
          have hi3 := hi.grow k03
          have HP := Lib.hid (sput_any (some ⟨wr.heap.size, 0, none⟩) 1 1 [⟨[107], xs, false⟩] (hi3.st.grow ((Keeps.refl [] wr).alloc (.cells #[sv [107], sv xs, .bool false] 55))) hi3.calm hi3.br (by decide) (chg_one wr ⟨[107], xs, false⟩ (by simp) (by show xs.length ≤ _; rw [HX.out]; omega)) (by have := hi3.done; omega))
          have hsp := hi3.sp
          rw [hsp] at HP
          have HI3 := Lib.hid hi3
          have HB3 := Lib.hid hb3
          have hgl : wo.heap.size < wr.heap.size := (HO2.out.lt _ rfl).2
          have hgp : wo.heap.size ∉ s.p :: k.fp := fun hm => by
            have h1 := hi.st.st.lt
            rcases List.mem_cons.1 hm with hm | hm
            · omega
            · have := hi.st.disk.lt _ (fp_sub hm); omega
          have HGP := Lib.hid hgp
          clear hb3 k03 hi hi3 hgp HO2 HK2 HI
          go_wp2_with fail
          refine HP.out.mono ?_
          rintro e w4 ⟨nn, s', k', T', rfl, hpu⟩
          obtain ⟨rfl, hT', hi4⟩ := HI3.out.put ((Keeps.refl [] wr).alloc _) HX.out h4 h5 hpu
          have kb : BytesAt w4 (.slice (some ⟨wo.heap.size, 0, none⟩) c2 c2) xs := (HB3.out.grow ((Keeps.refl [] wr).alloc (.cells #[sv [107], sv xs, .bool false] 55))).keep hpu.keeps (fun b hb => by simp [Value.ownBlock] at hb; rw [← hb]; exact HGP.out)
          have HI4 := Lib.hid hi4
          have HB4 := Lib.hid kb
          have HTT := Lib.hid hT'
          have HCR := Lib.hid (crash_dat k' k'.dat 0 0 w4 hi4.st.disk rfl (by decide) (by decide) (by rw [hi4.calm.w]; simp))
          rw [hi4.kkp] at HCR
          clear hpu hi4 kb hT' HP HI3 HB3
          go_wp2_with fail
          refine HCR.out.mono ?_
          rintro e w5 ⟨k5, rfl, hd5, e5, hn5, hk5⟩
          have hc5 := HI4.out.calm.crash 0 0
          rw [← e5] at hc5
          have HO5 := Lib.hid (open_any k5 w5 hd5 hc5.holds)
          have HI5 := Lib.hid (HI4.out.grow hk5)
          have HB5 := Lib.hid (HB4.out.grow hk5)
          clear hd5 hn5 hk5 hc5 HCR HI4 HB4 e5
          go_wp2_with fail
          refine HO5.out.mono ?_
          rintro e w6 ⟨p6, m6, rfl, hs6, hm6, hp6, hk6⟩
          have HI6 := Lib.hid (HI5.out.grow hk6)
          have hb6 := HB5.out.grow hk6
          have HCV := Lib.hid (fun X (hk : Keeps [] w6 X) => conv_bytes (hb6.grow hk))
          have hal : ∀ X, Keeps [] w6 X → Calls Tryz.prog 22 #[.pointer (some ⟨p6, 0, none⟩)] X fun e w' => ∃ A c, e = .returned (.slice A 1 c) ∧ PrsAt w' A 1 [([107], xs)] ∧ Keeps [] X w' := fun X hk => by
            refine (all_any (hs6.grow hk)).mono ?_
            rw [HTT.out]
            rintro e w' ⟨A, c, he, h1, _, h2⟩
            exact ⟨A, c, he, h1, h2⟩
          have HAL := Lib.hid hal
          clear hal
          have cv6 := HCV.out _ (Keeps.refl [] w6)
          clear hs6 hm6 hk6 hb6 HO5 HI5 HB5 cv
          have HL := Lib.hid HX
          clear HX
          go_wp2_with fail
          go_region_held3 (fun w' => (convert 53 9 (.slice (some ⟨wo.heap.size, 0, none⟩) c2 c2)).run Tryz.prog w' = .ok (.string ⟨xs.toArray⟩) w') (exact HCV.out _ (by repeat (first | exact Keeps.refl [] _ | exact K7.out | exact K8.out | refine Keeps.alloc ?_ _ | refine Keeps.drew ?_)))
            (first
            | (go_at_call 22; refine (HAL.out _ (by repeat (first | exact Keeps.refl [] _ | refine Keeps.alloc ?_ _ | refine Keeps.drew ?_))).mono ?_; rintro e w7 ⟨A, c7, rfl, hpa, hk7⟩; have K7 : Hid (Keeps [] w6 w7) := Keeps.trans' (by repeat (first | exact Keeps.refl [] _ | refine Keeps.alloc ?_ _ | refine Keeps.drew ?_)) hk7; have HPA := Lib.hid hpa; have HK7 := Lib.hid hk7; clear hpa hk7)
            | (go_at_call 24; refine (rsame_is _ _ _ _ _ _ [([107], xs)] [([107], xs)] _ (by first | exact HPA.out | exact HPA.out.grow ((Keeps.refl [] _).alloc _)) (by first | exact prs_one _ _ _ | exact (prs_one _ _ _).grow HK7.out | exact (prs_one _ _ _).grow (((Keeps.refl [] _).drew).trans' HK7.out)) (by decide) (by decide)).mono ?_; rw [decide_eq_true (rfl : [(([107] : List UInt8), xs)] = [([107], xs)])]; rintro e w8 ⟨rfl, hk8⟩; have K8 : Hid (Keeps [] w6 w8) := Keeps.trans' (by repeat (first | exact K7.out | refine Keeps.alloc ?_ _ | refine Keeps.drew ?_)) hk8; clear hk8))
          all_goals
            go_wp2_with fail
            go_roundw
            case rel => exact ⟨j + 1, by go_num, by omega, s', k', T', HI6.out.grow K8.out⟩
            case measure => simp [intOf]; omega
    · obtain rfl : j = n := by omega
      go_wp2_with fail
      refine (known4_any _).mono ?_
      rintro e w4 ⟨rfl, hk⟩
      have HK4 := Lib.hid hk
      clear hk
      go_wp2_with fail
      go_ret
      obtain ⟨s, k, T, hi⟩ := HI.out
      exact ⟨rfl, hi.keep.trans' HK4.out⟩

end Go.Proofs.YtikfpkeffmbnpaaGreat
/- StoreTurns, whatever the numbers. -/
namespace Go.Proofs.YtikfpkeffmbnpaaGreat
open Go.RowKit Go.Shelf Go.Maps
set_option linter.unusedVariables false

theorem storeturns_any (size n long : Int) (w : World) (h1 : -9223372036854775808 ≤ size ∧ size ≤ 9223372036854775807) (h2 : -9223372036854775808 ≤ n ∧ n ≤ 9223372036854775807) (h3 : -9223372036854775808 ≤ long ∧ long ≤ 9223372036854775807) :
    Calls Tryz.prog 8 #[.int .i64 size, .int .i64 n, .int .i64 long] w fun e w' => e = .returned (.bool true) ∧ Below w.heap.size w w' := by
  have key : Calls Tryz.prog 8 #[.int .i64 size, .int .i64 n, .int .i64 long] w fun e w' => e = .returned (.bool true) ∧ Keeps [] w w' := by
    by_cases h : size < 256 ∨ 2000 < size ∨ n < 0 ∨ 200 < n ∨ long < 0 ∨ 60 < long ∨ size.tdiv 2 < 17 + long + 64
    · exact turns_no size n long w h1 h2 h3 h
    · have q1 : 256 ≤ size := by omega
      have q2 : 0 ≤ n := by omega
      have q3 : 0 ≤ long := by omega
      have q4 : ¬ size.tdiv 2 < 17 + long + 64 := fun hh => h (by simp [hh])
      rw [Int.tdiv_eq_ediv_of_nonneg (by omega)] at q4
      obtain ⟨s, rfl⟩ := Int.eq_ofNat_of_zero_le (show 0 ≤ size by omega)
      obtain ⟨m, rfl⟩ := Int.eq_ofNat_of_zero_le q2
      obtain ⟨l, rfl⟩ := Int.eq_ofNat_of_zero_le q3
      exact turns_yes s m l w (by omega) (by omega) (by omega) (by omega) (by omega)
  exact key.mono fun e w' ⟨he, hk⟩ => ⟨he, hk.below (Nat.le_refl _) (by simp)⟩

end Go.Proofs.YtikfpkeffmbnpaaGreat
