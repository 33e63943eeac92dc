/- Texts of one proof, laid together: T20. -/
import Derived.Test.YtnengckecooohaaM25
import Derived.Test.YtnengckecooohaaM24
/- ber: as deep as a value may be, as long, and one more. -/
namespace Go.Proofs.Ytnengckecooohaa
open Go.RowKit Go.Shelf
set_option linter.unusedVariables false
set_option linter.unusedSimpArgs false
set_option maxRecDepth 100000

/-- Five cells that say a value. -/
def ValV (e : Ending) (q : Int) : Prop := ∃ (x1 x2 : Int) (x3 : Bool) (A1 : Option Addr) (l1 c1 : Nat) (B1 : Option Addr) (l2 c2 : Nat), e = .returned (.tuple #[.agg #[.int .u8 x1, .int .u8 x2, .bool x3, .slice A1 l1 c1, .slice B1 l2 c2], .int .i64 q])

theorem dec_num {xs : List UInt8} {q : Int} {w : World} {e : Ending} {w' : World} (h : DecQ xs w e w') (h1 : ∀ t, decD xs = .inr t → q = 0) (h2 : ∀ no, decD xs = .inl no → q = no) : ValV e q ∧ Keeps [] w w' := by
  obtain ⟨⟨t, hh, hd, rfl, _⟩ | ⟨no, hd, rfl⟩, hk⟩ := h
  · obtain ⟨c, n, k, A, la, ca, B, lb, cb⟩ := hh
    rw [h1 t hd]
    exact ⟨⟨_, _, _, _, _, _, _, _, _, rfl⟩, hk⟩
  · rw [h2 no hd]
    exact ⟨⟨_, _, _, _, _, _, _, _, _, rfl⟩, hk⟩

/-- The lists in one another, as the law lays them: a round. -/
structure NestR (g : Nat) (w wr : World) (j : Nat) : Prop where
  at_ : ∃ h : BH, wr.heap[g]? = some (.cells #[.int .u8 (h.c : Int), .int .u8 (h.n : Int), .bool h.k, .slice h.A h.la h.ca, .slice h.B h.lb h.cb] 25 (0, 0)) ∧ BerAt wr (nestB j) h
  keeps : Keeps [] w wr

theorem berbounds_not (deep long : Int) (hin : ¬ (1 ≤ deep ∧ deep ≤ 40 ∧ 65500 ≤ long ∧ long ≤ 65560)) (w : World) :
    Calls Try.prog 6 #[.int .i64 deep, .int .i64 long] w fun e w' => e = .returned (.bool true) ∧ Below w.heap.size w w' := by
  rcases Int.lt_or_le deep 1 with h1 | h1
  · go_enter Try.func6, Try.ntmps6
    go_wp2_with fail
    refine (known5_any _).mono ?_
    rintro e w2 ⟨rfl, hk2⟩
    have HK2 := Lib.hid hk2
    clear hk2
    go_wp2_with fail
    go_ret
    exact ⟨rfl, below_keeps HK2.out⟩
  have g1 : ¬ deep < 1 := by omega
  rcases Int.lt_or_le 40 deep with h2 | h2
  · go_enter Try.func6, Try.ntmps6
    go_wp2_with fail
    refine (known5_any _).mono ?_
    rintro e w2 ⟨rfl, hk2⟩
    have HK2 := Lib.hid hk2
    clear hk2
    go_wp2_with fail
    go_ret
    exact ⟨rfl, below_keeps HK2.out⟩
  have g2 : ¬ 40 < deep := by omega
  rcases Int.lt_or_le long 65500 with h3 | h3
  · go_enter Try.func6, Try.ntmps6
    go_wp2_with fail
    refine (known5_any _).mono ?_
    rintro e w2 ⟨rfl, hk2⟩
    have HK2 := Lib.hid hk2
    clear hk2
    go_wp2_with fail
    go_ret
    exact ⟨rfl, below_keeps HK2.out⟩
  have g3 : ¬ long < 65500 := by omega
  have h4 : 65560 < long := by omega
  clear hin
  go_enter Try.func6, Try.ntmps6
  go_wp2_with fail
  refine (known5_any _).mono ?_
  rintro e w2 ⟨rfl, hk2⟩
  have HK2 := Lib.hid hk2
  clear hk2
  go_wp2_with fail
  go_ret
  exact ⟨rfl, below_keeps HK2.out⟩

set_option maxHeartbeats 8000000 in
theorem berbounds_in (D N : Nat) (hD1 : 1 ≤ D) (hD : D ≤ 40) (hN1 : 65500 ≤ N) (hN : N ≤ 65560) (w : World) :
    Calls Try.prog 6 #[.int .i64 (D : Int), .int .i64 (N : Int)] w fun e w' => e = .returned (.bool true) ∧ Below w.heap.size w w' := by
  obtain ⟨iu, hiu, hzu0, hzu1, hzu2⟩ := info_parts u8_info
  have hib : iu.bytes * N ≤ 281474976710656 := by rw [hzu2]; omega
  have hml : N ≤ maxLen := by unfold maxLen; omega
  obtain ⟨xs, hxs⟩ : ∃ xs, List.replicate N (0 : UInt8) = xs := ⟨_, rfl⟩
  have hxl : xs.length = N := by rw [← hxs]; simp
  have HXL := Lib.hid hxl
  have HXS := Lib.hid hxs
  have g1 : ¬ (D : Int) < 1 := by omega
  have g2 : ¬ (40 : Int) < (D : Int) := by omega
  have g3 : ¬ (N : Int) < 65500 := by omega
  have g4 : ¬ (65560 : Int) < (N : Int) := by omega
  have HT0 : Hid (∀ X, Calls Try.prog 28 #[.string ⟨#[120]⟩] X fun e w' => ∃ A c, e = .returned (.agg #[.int .u8 0, .int .u8 4, .bool false, .slice A 1 c, .slice none 0 0]) ∧ BytesAt w' (.slice A 1 c) [120] ∧ Keeps [] X w') := fun X => text_is [120] X (by decide)
  have HTX : Hid (∀ X, Calls Try.prog 28 #[.string ⟨xs.toArray⟩] X fun e w' => ∃ A c, e = .returned (.agg #[.int .u8 0, .int .u8 4, .bool false, .slice A N c, .slice none 0 0]) ∧ BytesAt w' (.slice A N c) xs ∧ Keeps [] X w') := fun X => by
    have h9 := text_is xs X (by omega)
    rw [hxl] at h9
    exact h9
  -- the numbers that are told of both
  obtain ⟨q, hq⟩ : ∃ q, checkB (nestB (D - 1)) = q := ⟨_, rfl⟩
  have hqc : (q = 0 ∧ D ≤ 16) ∨ (q = 150 ∧ ¬ D ≤ 16) := by
    rw [← hq, nest_check (D - 1) (by omega)]
    by_cases h : D - 1 < 16
    · left; rw [if_pos h]; omega
    · right; rw [if_neg h]; omega
  have HQD : Hid (∀ X A c, BytesAt X (.slice A (bytesB (nestB (D - 1))).length c) (bytesB (nestB (D - 1))) → Calls Try.prog 15 #[.slice A (bytesB (nestB (D - 1))).length c] X fun e w' => ValV e q ∧ Keeps [] X w') := fun X A c hb => by
    have hl := nest_len (D - 1) (by omega)
    have hd := nest_dec (D - 1) (by omega)
    refine (decode_is A _ c (bytesB (nestB (D - 1))) X rfl hb (by omega)).mono ?_
    intro e w' h
    refine dec_num h (fun t ht => ?_) (fun no hno => ?_)
    · rcases hqc with ⟨h1, h2⟩ | ⟨h1, h2⟩
      · exact h1
      · rw [hd.2 (by omega)] at ht; cases ht
    · rcases hqc with ⟨h1, h2⟩ | ⟨h1, h2⟩
      · rw [hd.1 (by omega)] at hno; cases hno
      · rw [hd.2 (by omega)] at hno; injection hno with hno; rw [← hno]; exact h1
  obtain ⟨p, hp⟩ : ∃ p : Int, checkB (.mk 0 4 false xs []) = p := ⟨_, rfl⟩
  have hp2 : (if 65536 < (lenB xs.length).length + 1 + xs.length then (3 : Int) else 0) = p := by rw [← hp, text_check]
  have hpc : p = 0 ∨ p = 3 := by rw [← hp2]; split <;> simp
  have HPD : Hid (∀ X A m c, m = (bytesB (.mk 0 4 false xs [])).length → BytesAt X (.slice A m c) (bytesB (.mk 0 4 false xs [])) → Calls Try.prog 15 #[.slice A m c] X fun e w' => ValV e p ∧ Keeps [] X w') := fun X A m c hm hb => by
    have hd := text_dec xs
    rw [← text_bytes] at hd
    have hl4 := lenB_len xs.length
    refine (decode_is A _ c (bytesB (.mk 0 4 false xs [])) X hm.symm hb (by rw [hm, text_bytes]; simp; omega)).mono ?_
    intro e w' h
    refine dec_num h (fun t ht => ?_) (fun no hno => ?_)
    · rw [← hp2]
      rw [hd] at ht
      split at ht
      · cases ht
      · rw [if_neg (by assumption)]
    · rw [← hp2]
      rw [hd] at hno
      split at hno
      · rw [if_pos (by assumption)]; injection hno
      · cases hno
  have HPR : Hid (∀ X A m c, m = (bytesB (.mk 0 4 false xs [])).length → BytesAt X (.slice A m c) (bytesB (.mk 0 4 false xs [])) → Calls Try.prog 31 #[.slice A m c] X fun e w' => ValV e p ∧ Keeps [] X w') := fun X A m c hm hb => by
    rw [text_bytes] at hm hb
    rw [← hp2]
    refine (rdec_text A m c xs X (by omega) (by omega) hm.symm hb).mono ?_
    rintro e w' ⟨⟨x, D, n, d, rfl⟩, hk⟩
    exact ⟨⟨_, _, _, _, _, _, _, _, _, rfl⟩, hk⟩
  have HPE : Hid (∀ X A c, BytesAt X (.slice A N c) xs → Calls Try.prog 12 #[.agg #[.int .u8 0, .int .u8 4, .bool false, .slice A N c, .slice none 0 0]] X fun e w' => (∃ D l d, e = .returned (.tuple #[.slice D l d, .int .i64 p]) ∧ (p = 0 → l = sizeB (.mk 0 4 false xs []))) ∧ Keeps [] X w') := fun X A c hb => by
    refine (encode_is (.mk 0 4 false xs []) ⟨0, 4, false, A, N, c, none, 0, 0⟩ X (BerAt.flat (by decide) (by decide) hxl hb) (by simp [nodesB, nodesL]) (by simp [maxB, maxL]; omega)).mono ?_
    rintro e w' ⟨⟨ys, B, bd, he, rfl, hb6⟩ | ⟨no, he, rfl⟩, hk6⟩
    · have h0 := (check_enc (.mk 0 4 false xs [])).2 ys he
      rw [hp] at h0
      subst h0
      refine ⟨⟨B, ys.length, bd, rfl, fun _ => ?_⟩, hk6⟩
      obtain ⟨e1, _, e3, _⟩ := encB_yes he
      exact ((lay_len _ e1).1 ys e3).1.symm
    · have h0 := (check_enc (.mk 0 4 false xs [])).1 no he
      rw [hp] at h0
      obtain ⟨h0, h1⟩ := h0
      subst h0
      exact ⟨⟨none, 0, 0, rfl, fun h => absurd h h1⟩, hk6⟩
  have HPC : Hid (∀ X A c, BytesAt X (.slice A N c) xs → Calls Try.prog 13 #[.agg #[.int .u8 0, .int .u8 4, .bool false, .slice A N c, .slice none 0 0]] X fun e w' => e = .returned (.int .i64 p) ∧ Keeps [] X w') := fun X A c hb => by
    have h9 := rcheck_is (.mk 0 4 false xs []) ⟨0, 4, false, A, N, c, none, 0, 0⟩ X (by simp [maxB, maxL, hgtB, hgtL]; omega) (BerAt.flat (by decide) (by decide) hxl hb)
    rw [hp] at h9
    exact h9
  have HPS : Hid (∀ X A c, BytesAt X (.slice A N c) xs → Calls Try.prog 32 #[.agg #[.int .u8 0, .int .u8 4, .bool false, .slice A N c, .slice none 0 0]] X fun e w' => e = .returned (.int .i64 (sizeB (.mk 0 4 false xs []) : Int)) ∧ Keeps [] X w') := fun X A c hb =>
    rsize_is (.mk 0 4 false xs []) ⟨0, 4, false, A, N, c, none, 0, 0⟩ X (by simp [maxB, maxL, hgtB, hgtL]; omega) (BerAt.flat (by decide) (by decide) hxl hb)
  have HPB : Hid (∀ X A c, BytesAt X (.slice A N c) xs → Calls Try.prog 16 #[.agg #[.int .u8 0, .int .u8 4, .bool false, .slice A N c, .slice none 0 0]] X (BytesQ (.mk 0 4 false xs []) X)) := fun X A c hb => by
    have hl4 := lenB_len xs.length
    exact rbytes_is (.mk 0 4 false xs []) ⟨0, 4, false, A, N, c, none, 0, 0⟩ X (by simp [badB, badL, stands]) (by rw [text_bytes]; simp; omega) (BerAt.flat (by decide) (by decide) hxl hb)
  have HNC : Hid (∀ X h, BerAt X (nestB (D - 1)) h → Calls Try.prog 14 #[h.val] X fun e w' => e = .returned (.int .i64 q) ∧ Keeps [] X w') := fun X h ht => by
    have h9 := check_is (nestB (D - 1)) h X ht (by rw [nest_nodes]; omega) (by have := nest_max (D - 1); omega)
    rw [hq] at h9
    exact h9
  have HNR : Hid (∀ X h, BerAt X (nestB (D - 1)) h → Calls Try.prog 13 #[h.val] X fun e w' => e = .returned (.int .i64 q) ∧ Keeps [] X w') := fun X h ht => by
    have h9 := rcheck_is (nestB (D - 1)) h X (Nat.le_trans (Nat.add_le_add (nest_max (D - 1)) (Nat.mul_le_mul_left 65546 (show hgtB (nestB (D - 1)) ≤ 50 by rw [nest_hgt]; omega))) (by decide)) ht
    rw [hq] at h9
    exact h9
  have HNB : Hid (∀ X h, BerAt X (nestB (D - 1)) h → Calls Try.prog 16 #[h.val] X (BytesQ (nestB (D - 1)) X)) := fun X h ht =>
    rbytes_is (nestB (D - 1)) h X (nest_bad _) (by rw [nest_len _ (by omega)]; omega) ht
  obtain ⟨nb, hnb⟩ : ∃ nb, bytesB (nestB (D - 1)) = nb := ⟨_, rfl⟩
  obtain ⟨tb, htb⟩ : ∃ tb, bytesB (.mk 0 4 false xs []) = tb := ⟨_, rfl⟩
  obtain ⟨sz, hsz⟩ : ∃ sz, sizeB (.mk 0 4 false xs []) = sz := ⟨_, rfl⟩
  unfold BytesQ at HNB HPB
  rw [hnb] at HQD HNB
  rw [htb] at HPD HPR HPB
  rw [hsz] at HPE HPS
  have HLD : Hid (∀ (j : Nat), j ≤ 50 → nodesL [nestB j] ≤ 1000000000 ∧ maxL [nestB j] ≤ 1000000000) := fun j hj => by
    have h1 := nest_nodes j
    have h2 := nest_max j
    exact ⟨by simp [nodesL, h1]; omega, by simp [maxL]; omega⟩
  clear hxl hxs hp2 hp hq hnb htb hsz hN hN1
  have HD := Lib.hid hD
  have HD1 := Lib.hid hD1
  clear hD hD1
  rcases hqc with ⟨rfl, hd⟩ | ⟨rfl, hd⟩
  all_goals
    rcases hpc with rfl | rfl
  all_goals
    first
      | (have hdi : decide ((D : Int) ≤ 16) = true := by simpa using (show (D : Int) ≤ 16 by omega))
      | (have hdi : decide ((D : Int) ≤ 16) = false := by simpa using (show ¬ (D : Int) ≤ 16 by omega))
    clear hd
    go_enter Try.func6, Try.ntmps6
    go_wp2_with fail
    refine (HT0.out _).mono ?_
    rintro e w1 ⟨A0, c0, rfl, hb1, hk1⟩
    obtain ⟨g, hg⟩ : ∃ g, w1.heap.size = g := ⟨_, rfl⟩
    obtain ⟨W2, hW2⟩ : ∃ W2, w1.alloc (.cells #[.int .u8 0, .int .u8 4, .bool false, .slice A0 1 c0, .slice none 0 0] 25) = W2 := ⟨_, rfl⟩
    have hk2 : Keeps [] w1 W2 := by rw [← hW2]; exact (Keeps.refl [] w1).alloc _
    have hr2 : W2.heap[w1.heap.size]? = some (.cells #[.int .u8 0, .int .u8 4, .bool false, .slice A0 1 c0, .slice none 0 0] 25 (0, 0)) := by rw [← hW2]; exact heap_new8 w1 _
    have HST : Hid (NestR w1.heap.size w W2 0) := ⟨⟨⟨0, 4, false, A0, 1, c0, none, 0, 0⟩, hr2, BerAt.flat (by decide) (by decide) rfl (hb1.grow hk2)⟩, hk1.trans' hk2⟩
    have HG : Hid (w.heap.size ≤ w1.heap.size) := hk1.size
    have HW2 := Lib.hid hW2
    clear hb1 hk1 hk2 hr2 hg hW2
    go_wp2_with fail
    rw [HW2.out]
    clear HT0 HW2
    go_loopw [6] (fun i wr => ∃ j : Nat, i = .int .i64 ((j : Int) + 1) ∧ j + 1 ≤ D ∧ Hid (NestR w1.heap.size w wr j)) (fun i _ => D - (intOf i).toNat)
    case atStart => exact ⟨0, by simp, HD1.out, HST.out⟩
    case round =>
      obtain ⟨j, rfl, hj, HNJ⟩ := hrel
      obtain ⟨⟨c, n, k, A, la, ca, B, lb, cb⟩, hbk, hat⟩ := HNJ.out.at_
      dsimp only at hbk
      have HKR := Lib.hid HNJ.out.keeps
      have HAT := Lib.hid hat
      have HBK := Lib.hid hbk
      obtain ⟨⟨y0, y1, y2, y3, y4⟩, ⟨f0, f1, f2, f3, f4⟩⟩ := five_facts hbk
      have hglt : w1.heap.size < wr.heap.size := lt_of_heap hbk
      clear HNJ HST
      by_cases hlt : j + 1 < D
      · have hlti : (j : Int) + 1 < (D : Int) := by omega
        obtain ⟨W3, hW3⟩ : ∃ W3, wr.alloc (.cells #[.int .u8 (c : Int), .int .u8 (n : Int), .bool k, .slice A la ca, .slice B lb cb] 25) = W3 := ⟨_, rfl⟩
        have hk3 : Keeps [] wr W3 := by rw [← hW3]; exact (Keeps.refl [] wr).alloc _
        have hr3 : W3.heap[wr.heap.size]? = some (.cells #[.int .u8 (c : Int), .int .u8 (n : Int), .bool k, .slice A la ca, .slice B lb cb] 25 (0, 0)) := by rw [← hW3]; exact heap_new8 wr _
        have hld := HLD.out j (by have := HD.out; omega)
        have HLI := Lib.hid (list_is (some ⟨wr.heap.size, 0, none⟩) 1 1 [nestB j] W3 rfl ⟨⟨_, _, ⟨c, n, k, A, la, ca, B, lb, cb⟩, rfl, fun q u hu => by rw [cell_of_blk hr3]; simpa [BH.list] using hu, BerAt.grow hk3 _ _ hat⟩, trivial⟩ hld.1 hld.2)
        have HGW : Hid (w1.heap.size < W3.heap.size) := by have := hk3.size; show _ < _; omega
        have HK3 := Lib.hid hk3
        have HW3 := Lib.hid hW3
        clear hk3 hr3 hld hW3 hat hbk hglt
        go_wp2_with fail
        rw [HW3.out]
        refine HLI.out.mono ?_
        rintro e w4 ⟨C, d, rfl, hi, hk4⟩
        have hb4 := blk_keep (blk_keep HBK.out HK3.out (by simp)) hk4 (by simp)
        clear y0 y1 y2 y3 y4 f0 f1 f2 f3 f4
        obtain ⟨⟨y0, y1, y2, y3, y4⟩, ⟨f0, f1, f2, f3, f4⟩⟩ := five_facts hb4
        have HB4 := Lib.hid hb4
        have HI := Lib.hid hi
        have HK4 := Lib.hid (HKR.out.trans' (HK3.out.trans' hk4))
        clear hb4 hi hk4
        go_wp2_with fail
        have hrow := five_set (v0 := .int .u8 0) (v1 := .int .u8 16) (v2 := .bool true) (v3 := .slice none 0 0) (v4 := .slice C 1 d) HB4.out
        have hkf := five_keep (v0 := .int .u8 0) (v1 := .int .u8 16) (v2 := .bool true) (v3 := .slice none 0 0) (v4 := .slice C 1 d) HK4.out (g := w1.heap.size) (.inr HG.out)
        have hks := five_keep (bs := [w1.heap.size]) (v0 := .int .u8 0) (v1 := .int .u8 16) (v2 := .bool true) (v3 := .slice none 0 0) (v4 := .slice C 1 d) (Keeps.refl [w1.heap.size] w4) (g := w1.heap.size) (.inl (by simp))
        go_roundw
        case rel => exact ⟨j + 1, by go_num, by omega, ⟨⟨⟨0, 16, true, none, 0, 0, C, 1, d⟩, hrow, HI.out [w1.heap.size] _ (fun x hx => by have := HGW.out; simp at hx; omega) hks⟩, hkf⟩⟩
        case measure => simp [intOf]; omega
      · have hlti : ¬ (j : Int) + 1 < (D : Int) := by omega
        have hjd : j = D - 1 := by omega
        rw [hjd] at HAT
        have HVF := Lib.hid (fun X (hk : Keeps [] wr X) => (five_facts (blk_keep hbk hk (by simp))).1)
        have HNC2 := Lib.hid (fun X (hk : Keeps [] wr X) => HNC.out X ⟨c, n, k, A, la, ca, B, lb, cb⟩ (BerAt.grow hk _ _ HAT.out))
        have HNR2 := Lib.hid (fun X (hk : Keeps [] wr X) => HNR.out X ⟨c, n, k, A, la, ca, B, lb, cb⟩ (BerAt.grow hk _ _ HAT.out))
        have HNB2 := Lib.hid (fun X (hk : Keeps [] wr X) => HNB.out X ⟨c, n, k, A, la, ca, B, lb, cb⟩ (BerAt.grow hk _ _ HAT.out))
        unfold BH.val at HNC2 HNR2 HNB2
        clear HNC HNR HNB HLD hat hbk hjd hj hlt f0 f1 f2 f3 f4
        go_wp2_with fail
        refine (HNC2.out wr (Keeps.refl _ _)).mono ?_
        rintro e w3 ⟨rfl, hk3⟩
        have HK3 := Lib.hid hk3
        clear hk3 HNC2 y0 y1 y2 y3 y4
        go_wp2_with (at_make; refine wpList_make_full _ rfl _ _ _ rfl 0 5 iu (.int .u8 0) 1 Try.underlying22 hiu hzu0 hzu1 .i64 .i64 _ _ N rfl rfl rfl rfl hib hml (Nat.zero_le _) ?_; intro w4 hown hg4; have cv := conv_bytes (made_own hown); rw [HXS.out] at cv; have HK4 : Hid (Keeps [] w3 w4) := Keeps.of_grown hg4 (by simp); clear hown hg4)
        refine (HTX.out _).mono ?_
        rintro e w5 ⟨A5, c5, rfl, hb5, hk5⟩
        have HK5 := Lib.hid (HK3.out.trans' (HK4.out.trans' hk5))
        obtain ⟨W6, hW6⟩ : ∃ W6, w5.alloc (.cells #[.int .u8 0, .int .u8 4, .bool false, .slice A5 N c5, .slice none 0 0] 25) = W6 := ⟨_, rfl⟩
        have hk6 : Keeps [] w5 W6 := by rw [← hW6]; exact (Keeps.refl [] w5).alloc _
        have hr6 : W6.heap[w5.heap.size]? = some (.cells #[.int .u8 0, .int .u8 4, .bool false, .slice A5 N c5, .slice none 0 0] 25 (0, 0)) := by rw [← hW6]; exact heap_new8 w5 _
        have HWF := Lib.hid (fun X (hk : Keeps [] W6 X) => (five_facts (blk_keep hr6 hk (by simp))).1)
        have HBT := Lib.hid (fun X (hk : Keeps [] W6 X) => hb5.grow (hk6.trans' hk))
        have HK6 := Lib.hid (HK5.out.trans' hk6)
        have HW6 := Lib.hid hW6
        clear hk5 hb5 hk6 hr6 hW6 cv
        go_wp2_with fail
        rw [HW6.out]
        refine (HPE.out W6 A5 c5 (HBT.out W6 (Keeps.refl _ _))).mono ?_
        rintro e w7 ⟨⟨G, l, d, rfl, hls⟩, hk7⟩
        have HLS := Lib.hid hls
        have HK7 := Lib.hid hk7
        obtain ⟨x0, x1, x2, x3, x4⟩ := HWF.out w7 HK7.out
        clear hls hk7 HW6
        go_wp2_with fail
        refine (HPC.out w7 A5 c5 (HBT.out w7 HK7.out)).mono ?_
        rintro e w8 ⟨rfl, hk8⟩
        have HK8 := Lib.hid (HK7.out.trans' hk8)
        clear x0 x1 x2 x3 x4 hk8
        obtain ⟨y0, y1, y2, y3, y4⟩ := HVF.out w8 (HK6.out.trans' HK8.out)
        go_wp2_with fail
        refine (HNR2.out w8 (HK6.out.trans' HK8.out)).mono ?_
        rintro e w9 ⟨rfl, hk9⟩
        have HK9 := Lib.hid (HK8.out.trans' hk9)
        clear y0 y1 y2 y3 y4 hk9
        obtain ⟨y0, y1, y2, y3, y4⟩ := HVF.out w9 (HK6.out.trans' HK9.out)
        go_wp2_with fail
        refine (HNB2.out w9 (HK6.out.trans' HK9.out)).mono ?_
        rintro e u1 ⟨D1, d1, rfl, hb1, hk1⟩
        have HU1 := Lib.hid (HK9.out.trans' hk1)
        have HQ1 := Lib.hid (HQD.out u1 D1 d1 hb1)
        clear y0 y1 y2 y3 y4 hk1 hb1
        go_wp2_with fail
        refine HQ1.out.mono ?_
        rintro e u2 ⟨⟨a1, a2, a3, a4, a5, a6, a7, a8, a9, rfl⟩, hk2⟩
        obtain ⟨U2, hU2⟩ : ∃ U2, u2.alloc (.cells #[.int .u8 a1, .int .u8 a2, .bool a3, .slice a4 a5 a6, .slice a7 a8 a9] 25) = U2 := ⟨_, rfl⟩
        have HU2 : Hid (Keeps [] W6 U2) := HU1.out.trans' (hk2.trans' (by rw [← hU2]; exact (Keeps.refl [] u2).alloc _))
        obtain ⟨x0, x1, x2, x3, x4⟩ := HWF.out U2 HU2.out
        clear hk2
        go_wp2_with fail
        refine (HPB.out U2 A5 c5 (HBT.out U2 HU2.out)).mono ?_
        rintro e u3 ⟨D3, d3, rfl, hb3, hk3⟩
        have HU3 := Lib.hid (HU2.out.trans' hk3)
        have HQ3 := Lib.hid (HPD.out u3 D3 _ d3 rfl hb3)
        clear x0 x1 x2 x3 x4 hk3 hb3 hU2
        go_wp2_with fail
        refine HQ3.out.mono ?_
        rintro e u4 ⟨⟨a1, a2, a3, a4, a5, a6, a7, a8, a9, rfl⟩, hk4⟩
        obtain ⟨U4, hU4⟩ : ∃ U4, u4.alloc (.cells #[.int .u8 a1, .int .u8 a2, .bool a3, .slice a4 a5 a6, .slice a7 a8 a9] 25) = U4 := ⟨_, rfl⟩
        have HU4 : Hid (Keeps [] W6 U4) := HU3.out.trans' (hk4.trans' (by rw [← hU4]; exact (Keeps.refl [] u4).alloc _))
        obtain ⟨x0, x1, x2, x3, x4⟩ := HWF.out U4 HU4.out
        clear hk4
        go_wp2_with fail
        refine (HPB.out U4 A5 c5 (HBT.out U4 HU4.out)).mono ?_
        rintro e u5 ⟨D5, d5, rfl, hb5, hk5⟩
        have HU5 := Lib.hid (HU4.out.trans' hk5)
        have HQ5 := Lib.hid (HPR.out u5 D5 _ d5 rfl hb5)
        clear x0 x1 x2 x3 x4 hk5 hb5 hU4
        go_wp2_with fail
        refine HQ5.out.mono ?_
        rintro e u6 ⟨⟨a1, a2, a3, a4, a5, a6, a7, a8, a9, rfl⟩, hk6⟩
        obtain ⟨U6, hU6⟩ : ∃ U6, u6.alloc (.cells #[.int .u8 a1, .int .u8 a2, .bool a3, .slice a4 a5 a6, .slice a7 a8 a9] 25) = U6 := ⟨_, rfl⟩
        have HU6 : Hid (Keeps [] W6 U6) := HU5.out.trans' (hk6.trans' (by rw [← hU6]; exact (Keeps.refl [] u6).alloc _))
        obtain ⟨x0, x1, x2, x3, x4⟩ := HWF.out U6 HU6.out
        clear hk6
        go_wp2_with fail
        first
          | (obtain rfl : l = sz := HLS.out (by first | exact trivial | rfl)
             refine (HPS.out U6 A5 c5 (HBT.out U6 HU6.out)).mono ?_
             rintro e u7 ⟨rfl, hk7⟩
             have HU7 := Lib.hid (HU6.out.trans' hk7)
             clear hk7 x0 x1 x2 x3 x4
             go_wp2_with fail
             refine (known5_any _).mono ?_
             rintro e u8 ⟨rfl, hk8⟩
             have HU8 := Lib.hid (HKR.out.trans' (HK6.out.trans' (HU7.out.trans' hk8)))
             clear hk8
             go_wp2_with fail
             go_ret
             exact ⟨rfl, below_keeps HU8.out⟩)
          | (refine (known5_any _).mono ?_
             rintro e u8 ⟨rfl, hk8⟩
             have HU8 := Lib.hid (HKR.out.trans' (HK6.out.trans' (HU6.out.trans' hk8)))
             clear hk8
             go_wp2_with fail
             go_ret
             exact ⟨rfl, below_keeps HU8.out⟩)

theorem berbounds_any (deep long : Int) (w : World) : Calls Try.prog 6 #[.int .i64 deep, .int .i64 long] w fun e w' => e = .returned (.bool true) ∧ Below w.heap.size w w' := by
  by_cases hin : 1 ≤ deep ∧ deep ≤ 40 ∧ 65500 ≤ long ∧ long ≤ 65560
  · obtain ⟨D, rfl⟩ := Int.eq_ofNat_of_zero_le (show 0 ≤ deep by omega)
    obtain ⟨N, rfl⟩ := Int.eq_ofNat_of_zero_le (show 0 ≤ long by omega)
    exact berbounds_in D N (by omega) (by omega) (by omega) (by omega) w
  · exact berbounds_not deep long hin w

end Go.Proofs.Ytnengckecooohaa
