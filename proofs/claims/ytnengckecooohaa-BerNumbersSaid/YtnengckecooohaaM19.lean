/- Texts of one proof, laid together: E47. -/
import Derived.Test.YtnengckecooohaaM18
/- ber: texts of any length. -/
namespace Go.Proofs.Ytnengckecooohaa
open Go.RowKit Go.Shelf
set_option linter.unusedVariables false
set_option linter.unusedSimpArgs false
set_option maxRecDepth 100000

theorem madeB (n : Nat) : (madeCells #[Value.int .u8 0] n).toList = (List.replicate n (0 : UInt8)).map bv := by rw [toList_madeCells_one]; simp [bv]
theorem made_own {w : World} {n g : Nat} (h : w.ownsRow 0 5 1 (.slice (some ⟨g, 0, none⟩) n n) n (madeCells (Value.int .u8 0).cells (n * 1)).toList) : BytesAt w (.slice (some ⟨g, 0, none⟩) n n) (List.replicate n (0 : UInt8)) := by
  have e : (madeCells (Value.int .u8 0).cells (n * 1)).toList = (List.replicate n (0 : UInt8)).map bv := by rw [Nat.mul_one]; exact madeB n
  rw [e] at h
  have hl : (List.replicate n (0 : UInt8)).length = n := by simp
  have h9 : w.ownsRow 0 5 1 (.slice (some ⟨g, 0, none⟩) n n) (List.replicate n (0 : UInt8)).length ((List.replicate n (0 : UInt8)).map bv) := by rw [hl]; exact h
  exact BytesAt.of_own h9

theorem natL_one {n : Nat} (h : 0 < n) (h2 : n < 256) : (natL n).length = 1 := by
  rw [natL_pos h, show n / 256 = 0 by omega, natL_zero]; rfl
theorem natL_two {n : Nat} (h : 256 ≤ n) (h2 : n < 65536) : (natL n).length = 2 := by
  rw [natL_pos (by omega), List.length_cons, natL_one (by omega) (by omega)]
theorem natL_three {n : Nat} (h : 65536 ≤ n) (h2 : n < 16777216) : (natL n).length = 3 := by
  rw [natL_pos (by omega), List.length_cons, natL_two (by omega) (by omega)]
theorem lenB_cases (n : Nat) (h : n ≤ 66000) : (n < 128 ∧ (lenB n).length = 1) ∨ (128 ≤ n ∧ n < 256 ∧ (lenB n).length = 2) ∨ (256 ≤ n ∧ n < 65536 ∧ (lenB n).length = 3) ∨ (65536 ≤ n ∧ (lenB n).length = 4) := by
  have h9 := lenB_many (n := n) (by omega)
  rcases Nat.lt_or_ge n 128 with h1 | h1
  · rw [if_pos h1] at h9; exact .inl ⟨h1, h9⟩
  · rw [if_neg (by omega)] at h9
    rcases Nat.lt_or_ge n 256 with h2 | h2
    · rw [natL_one (by omega) h2] at h9; exact .inr (.inl ⟨h1, h2, h9⟩)
    · rcases Nat.lt_or_ge n 65536 with h3 | h3
      · rw [natL_two h2 h3] at h9; exact .inr (.inr (.inl ⟨h2, h3, h9⟩))
      · rw [natL_three h3 (by omega)] at h9; exact .inr (.inr (.inr ⟨h3, h9⟩))
/-- The bytes of a text. -/
theorem text_enc (xs : List UInt8) : encB (.mk 0 4 false xs []) = if 65536 < (lenB xs.length).length + 1 + xs.length then .inl 3 else .inr (n8 4 :: lenB xs.length ++ xs) := by
  have h1 : badB (.mk 0 4 false xs []) = false := by
    show (!stands (.mk 0 4 false xs []) || badL []) = false
    simp [stands, badL]
  have h2 : deepB 1 (.mk 0 4 false xs []) = false := by simp [deepB, deepL]
  have h3 : layB (.mk 0 4 false xs []) = if 65536 < (lenB xs.length).length + 1 + xs.length then none else some (n8 4 :: lenB xs.length ++ xs) := by
    unfold layB
    simp [layL]
  unfold encB
  rw [h1, h2, h3]
  simp only [Bool.false_eq_true, if_false]
  split <;> simp_all

theorem below_keeps {w w' : World} (h : Keeps [] w w') : Below w.heap.size w w' := h.below (Nat.le_refl _) (by simp)

set_option maxHeartbeats 4000000 in
theorem berlengths_any (n : Int) (hn : -9223372036854775808 ≤ n ∧ n ≤ 9223372036854775807) (w : World) : Calls Try.prog 8 #[.int .i64 n] w fun e w' => e = .returned (.bool true) ∧ Below w.heap.size w w' := by
  rcases Int.lt_or_le n 0 with h0 | h0
  · go_enter Try.func8, Try.ntmps8
    go_wp2_with fail
    refine (known5_any _).mono ?_
    rintro e w1 ⟨rfl, hk⟩
    have HK := Lib.hid hk
    clear hk
    go_wp2_with fail
    go_ret
    exact ⟨rfl, below_keeps HK.out⟩
  obtain ⟨k, rfl⟩ := Int.eq_ofNat_of_zero_le h0
  have hn0 : ¬ (k : Int) < 0 := by omega
  rcases Nat.lt_or_ge 66000 k with h1 | h1
  · have h2 : (66000 : Int) < (k : Int) := by omega
    go_enter Try.func8, Try.ntmps8
    go_wp2_with fail
    refine (known5_any _).mono ?_
    rintro e w1 ⟨rfl, hk⟩
    have HK := Lib.hid hk
    clear hk
    go_wp2_with fail
    go_ret
    exact ⟨rfl, below_keeps HK.out⟩
  have h2 : ¬ (66000 : Int) < (k : Int) := by omega
  obtain ⟨iu, hiu, hzu0, hzu1, hzu2⟩ := info_parts u8_info
  have hib : iu.bytes * k ≤ 281474976710656 := by rw [hzu2]; omega
  have hml : k ≤ maxLen := by unfold maxLen; omega
  obtain ⟨xs, hxs⟩ : ∃ xs, List.replicate k (0 : UInt8) = xs := ⟨_, rfl⟩
  have hxl : xs.length = k := by rw [← hxs]; simp
  have HXL := Lib.hid hxl
  have HTX : Hid (∀ X, Calls Try.prog 28 #[.string ⟨xs.toArray⟩] X fun e w' => ∃ A c, e = .returned (.agg #[.int .u8 0, .int .u8 4, .bool false, .slice A k c, .slice none 0 0]) ∧ BytesAt w' (.slice A k c) xs ∧ Keeps [] X w') := fun X => by
    have h9 := text_is xs X (by omega)
    rw [hxl] at h9
    exact h9
  have HXS := Lib.hid hxs
  obtain ⟨bs, hbs⟩ : ∃ bs, n8 4 :: lenB k ++ xs = bs := ⟨_, rfl⟩
  obtain ⟨bl, hbn⟩ : ∃ bl, bs.length = bl := ⟨_, rfl⟩
  have HEC := Lib.hid (text_enc xs)
  rw [hxl, hbs] at HEC
  have hlb : bs.length = (lenB k).length + 1 + k := by rw [← hbs]; simp; omega
  have hcs := lenB_cases k h1
  clear hxl hxs h0 hn
  go_enter Try.func8, Try.ntmps8
  go_wp2_with (at_make; refine wpList_make_full _ rfl _ _ _ rfl 0 5 iu (.int .u8 0) 1 Try.underlying22 hiu hzu0 hzu1 .i64 .i64 _ _ k rfl rfl rfl rfl hib hml (Nat.zero_le _) ?_; intro w3 hown hg3; have cv := conv_bytes (made_own hown); rw [HXS.out] at cv; have HK3 : Hid (Keeps [] w w3) := Keeps.of_grown hg3 (by simp); clear hown hg3)
  refine (HTX.out _).mono ?_
  rintro e w4 ⟨A, c, rfl, hb4, hk4⟩
  have HB4 := Lib.hid hb4
  have HK4 := Lib.hid (HK3.out.trans' hk4)
  clear hb4 hk4 cv
  obtain ⟨W5, hW5⟩ : ∃ W5, w4.alloc (.cells #[.int .u8 0, .int .u8 4, .bool false, .slice A k c, .slice none 0 0] 25) = W5 := ⟨_, rfl⟩
  have hk5 : Keeps [] w4 W5 := by rw [← hW5]; exact (Keeps.refl [] w4).alloc _
  have hr5 : W5.heap[w4.heap.size]? = some (.cells #[.int .u8 0, .int .u8 4, .bool false, .slice A k c, .slice none 0 0] 25 (0, 0)) := by rw [← hW5]; exact heap_new8 w4 _
  have HBE : Hid (∀ X, Keeps [] W5 X → BerAt X (.mk 0 4 false xs []) ⟨0, 4, false, A, k, c, none, 0, 0⟩) := fun X hk => BerAt.flat (by decide) (by decide) HXL.out (HB4.out.grow (hk5.trans' hk))
  have HEN := Lib.hid (encode_is _ _ W5 (HBE.out W5 (Keeps.refl _ _)) (by simp [nodesB, nodesL]) (by simp [maxB, maxL]; have := HXL.out; omega))
  have HR5 := Lib.hid hr5
  have HK5 := Lib.hid (HK4.out.trans' hk5)
  obtain ⟨⟨y0, y1, y2, y3, y4⟩, _⟩ := five_facts hr5
  have HKx := Lib.hid hk5
  have HW5 := Lib.hid hW5
  clear hk5 hr5 hW5 y0 y1 y2 y3 y4
  go_wp2_with fail
  rw [HW5.out]
  refine HEN.out.mono ?_
  rintro e w6 ⟨⟨ys, B, bd, he, rfl, hb6⟩ | ⟨no, he, rfl⟩, hk6⟩
  · rw [HEC.out] at he
    split at he
    · cases he
    rename_i hsm
    injection he with he
    subst he
    rw [hbn] at hb6
    rw [hbn]
    have HK6 := Lib.hid (HK5.out.trans' hk6)
    have HSX : Hid (∀ X, Keeps [] w6 X → (X.cell? ⟨w4.heap.size, 0, none⟩ = some (.int .u8 0) ∧ X.cell? ⟨w4.heap.size, 1, none⟩ = some (.int .u8 4) ∧ X.cell? ⟨w4.heap.size, 2, none⟩ = some (.bool false) ∧ X.cell? ⟨w4.heap.size, 3, none⟩ = some (.slice A k c) ∧ X.cell? ⟨w4.heap.size, 4, none⟩ = some (.slice none 0 0)) ∧ (convert 22 9 (.slice B bl bd)).run Try.prog X = .ok (.string ⟨bs.toArray⟩) X) := fun X hk => ⟨(five_facts (blk_keep (blk_keep HR5.out hk6 (by simp)) hk (by simp))).1, conv_bytes (hb6.grow hk)⟩
    have HRB : Hid (∀ X, Keeps [] w6 X → Calls Try.prog 16 #[.agg #[.int .u8 0, .int .u8 4, .bool false, .slice A k c, .slice none 0 0]] X fun e w' => ∃ D d, e = .returned (.slice D bl d) ∧ BytesAt w' (.slice D bs.length d) bs ∧ Keeps [] w6 w') := fun X hk => by
      have h9 := rbytes_flat 0 4 A none k c 0 0 xs X (by decide) (by decide) HXL.out (by omega) (HB4.out.grow ((HKx.out).trans' (hk6.trans' hk)))
      rw [show (64 * ((0 : Nat) : Int) + ((4 : Nat) : Int)) = 4 from rfl, hbs] at h9
      refine h9.mono ?_
      rintro e w' ⟨D, d, rfl, h10, h11⟩
      exact ⟨D, d, by rw [hbn], h10, hk.trans' h11⟩
    clear hb6 hk6
    have hs4 : ¬ (65536 : Int) < (k : Int) + 4 := by
      rcases hcs with ⟨_, _⟩ | ⟨_, _, _⟩ | ⟨_, _, _⟩ | ⟨_, _⟩ <;> omega
    have hs5 : (k : Int) ≤ 65532 := by omega
    clear hs4
    have HSM := Lib.hid hsm
    rcases hcs with ⟨g1, g2⟩ | ⟨g1, g2, g3⟩ | ⟨g1, g2, g3⟩ | ⟨g1, g2⟩
    · have hbl : bl = k + 2 := by rw [← hbn, hlb]; omega
      have q1 : ¬ (128 : Int) ≤ (k : Int) := by omega
      have q2 : ¬ (256 : Int) ≤ (k : Int) := by omega
      have HBN := Lib.hid hbn
      have HBL := Lib.hid hbl
      clear h1
      obtain ⟨z, hz⟩ : ∃ z : Int, (k : Int) = z := ⟨_, rfl⟩
      rw [hz] at h2 hn0 hs5 q1 q2
      rw [hz]
      have HZ := Lib.hid hz
      clear hz
      clear hbl hbn hbs hlb hiu hzu0 hzu1 hzu2 hib hml g1 g2 hsm
      go_wp2_with fail
      have hlen : ((bl : Int) == 2 + z) = true := by have := HBL.out; have := HZ.out; simp; omega
      have hw : IntKind.i64.wrap (2 + z) = 2 + z := IntWalk.i64_in _ (by omega)
      go_region_held (fun w' => (w'.cell? ⟨w4.heap.size, 0, none⟩ = some (.int .u8 0) ∧ w'.cell? ⟨w4.heap.size, 1, none⟩ = some (.int .u8 4) ∧ w'.cell? ⟨w4.heap.size, 2, none⟩ = some (.bool false) ∧ w'.cell? ⟨w4.heap.size, 3, none⟩ = some (.slice A k c) ∧ w'.cell? ⟨w4.heap.size, 4, none⟩ = some (.slice none 0 0)) ∧ (convert 22 9 (.slice B bl bd)).run Try.prog w' = .ok (.string ⟨bs.toArray⟩) w') (exact HSX.out _ (by repeat (first | exact Keeps.refl [] _ | exact HK8.out | exact HK7.out | refine Keeps.drew ?_)))
        (first
        | (go_at_call 16; refine (HRB.out _ (by repeat (first | exact Keeps.refl [] _ | refine Keeps.drew ?_))).mono ?_; rintro e w7 ⟨D, dd, rfl, hb7, hk7⟩; have hcv2 := conv_bytes hb7; rw [HBN.out] at hcv2; have HK7 := Lib.hid hk7; clear hb7 hk7)
        | (go_at_call 11; refine (known5_any _).mono ?_; rintro e w8 ⟨rfl, hk8⟩; have HK8 := Lib.hid (HK7.out.trans' hk8); clear hk8))
      all_goals
        go_wp2_with fail
        go_ret
        exact ⟨rfl, below_keeps (HK6.out.trans' HK8.out)⟩
    · have hbl : bl = k + 3 := by rw [← hbn, hlb]; omega
      have q1 : (128 : Int) ≤ (k : Int) := by omega
      have q2 : ¬ (256 : Int) ≤ (k : Int) := by omega
      have HBN := Lib.hid hbn
      have HBL := Lib.hid hbl
      clear h1
      obtain ⟨z, hz⟩ : ∃ z : Int, (k : Int) = z := ⟨_, rfl⟩
      rw [hz] at h2 hn0 hs5 q1 q2
      rw [hz]
      have HZ := Lib.hid hz
      clear hz
      clear hbl hbn hbs hlb hiu hzu0 hzu1 hzu2 hib hml g1 g2 hsm
      go_wp2_with fail
      have hlen : ((bl : Int) == 3 + z) = true := by have := HBL.out; have := HZ.out; simp; omega
      have hw : IntKind.i64.wrap (3 + z) = 3 + z := IntWalk.i64_in _ (by omega)
      go_region_held (fun w' => (w'.cell? ⟨w4.heap.size, 0, none⟩ = some (.int .u8 0) ∧ w'.cell? ⟨w4.heap.size, 1, none⟩ = some (.int .u8 4) ∧ w'.cell? ⟨w4.heap.size, 2, none⟩ = some (.bool false) ∧ w'.cell? ⟨w4.heap.size, 3, none⟩ = some (.slice A k c) ∧ w'.cell? ⟨w4.heap.size, 4, none⟩ = some (.slice none 0 0)) ∧ (convert 22 9 (.slice B bl bd)).run Try.prog w' = .ok (.string ⟨bs.toArray⟩) w') (exact HSX.out _ (by repeat (first | exact Keeps.refl [] _ | exact HK8.out | exact HK7.out | refine Keeps.drew ?_)))
        (first
        | (go_at_call 16; refine (HRB.out _ (by repeat (first | exact Keeps.refl [] _ | refine Keeps.drew ?_))).mono ?_; rintro e w7 ⟨D, dd, rfl, hb7, hk7⟩; have hcv2 := conv_bytes hb7; rw [HBN.out] at hcv2; have HK7 := Lib.hid hk7; clear hb7 hk7)
        | (go_at_call 11; refine (known5_any _).mono ?_; rintro e w8 ⟨rfl, hk8⟩; have HK8 := Lib.hid (HK7.out.trans' hk8); clear hk8))
      all_goals
        go_wp2_with fail
        go_ret
        exact ⟨rfl, below_keeps (HK6.out.trans' HK8.out)⟩
    · have hbl : bl = k + 4 := by rw [← hbn, hlb]; omega
      have q1 : (128 : Int) ≤ (k : Int) := by omega
      have q2 : (256 : Int) ≤ (k : Int) := by omega
      have HBN := Lib.hid hbn
      have HBL := Lib.hid hbl
      clear h1
      obtain ⟨z, hz⟩ : ∃ z : Int, (k : Int) = z := ⟨_, rfl⟩
      rw [hz] at h2 hn0 hs5 q1 q2
      rw [hz]
      have HZ := Lib.hid hz
      clear hz
      clear hbl hbn hbs hlb hiu hzu0 hzu1 hzu2 hib hml g1 g2 hsm
      go_wp2_with fail
      have hlen : ((bl : Int) == 4 + z) = true := by have := HBL.out; have := HZ.out; simp; omega
      have hw : IntKind.i64.wrap (4 + z) = 4 + z := IntWalk.i64_in _ (by omega)
      go_region_held (fun w' => (w'.cell? ⟨w4.heap.size, 0, none⟩ = some (.int .u8 0) ∧ w'.cell? ⟨w4.heap.size, 1, none⟩ = some (.int .u8 4) ∧ w'.cell? ⟨w4.heap.size, 2, none⟩ = some (.bool false) ∧ w'.cell? ⟨w4.heap.size, 3, none⟩ = some (.slice A k c) ∧ w'.cell? ⟨w4.heap.size, 4, none⟩ = some (.slice none 0 0)) ∧ (convert 22 9 (.slice B bl bd)).run Try.prog w' = .ok (.string ⟨bs.toArray⟩) w') (exact HSX.out _ (by repeat (first | exact Keeps.refl [] _ | exact HK8.out | exact HK7.out | refine Keeps.drew ?_)))
        (first
        | (go_at_call 16; refine (HRB.out _ (by repeat (first | exact Keeps.refl [] _ | refine Keeps.drew ?_))).mono ?_; rintro e w7 ⟨D, dd, rfl, hb7, hk7⟩; have hcv2 := conv_bytes hb7; rw [HBN.out] at hcv2; have HK7 := Lib.hid hk7; clear hb7 hk7)
        | (go_at_call 11; refine (known5_any _).mono ?_; rintro e w8 ⟨rfl, hk8⟩; have HK8 := Lib.hid (HK7.out.trans' hk8); clear hk8))
      all_goals
        go_wp2_with fail
        go_ret
        exact ⟨rfl, below_keeps (HK6.out.trans' HK8.out)⟩
    · omega
  · rw [HEC.out] at he
    split at he
    · rename_i hbg
      injection he with he
      subst he
      have HK6 := Lib.hid (HK5.out.trans' hk6)
      have hs4 : (65536 : Int) < (k : Int) + 4 := by
        rcases hcs with ⟨_, _⟩ | ⟨_, _, _⟩ | ⟨_, _, _⟩ | ⟨_, _⟩ <;> omega
      clear hk6 hcs
      go_wp2_with fail
      refine (known5_any _).mono ?_
      rintro e w7 ⟨rfl, hk7⟩
      have HK7 := Lib.hid (HK6.out.trans' hk7)
      clear hk7
      go_wp2_with fail
      go_ret
      exact ⟨rfl, below_keeps HK7.out⟩
    · cases he

end Go.Proofs.Ytnengckecooohaa
