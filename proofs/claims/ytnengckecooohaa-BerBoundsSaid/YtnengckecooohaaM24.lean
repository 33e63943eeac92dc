/- Texts of one proof, laid together: T16. -/
import Derived.Test.YtnengckecooohaaM23
/- ber: the bytes of any value, or why there are none. -/
namespace Go.Proofs.Ytnengckecooohaa
open Go.RowKit Go.Shelf
set_option linter.unusedVariables false
set_option linter.unusedSimpArgs false
set_option maxRecDepth 100000

set_option maxHeartbeats 4000000 in
theorem berencodes_any (t : BV) (h : BH) (w : World) (ht : BerAt w t h) :
    Calls Try.prog 3 #[h.val] w fun e w' => e = .returned (.bool true) ∧ Below w.heap.size w w' := by
  have HT := Lib.hid ht
  obtain ⟨c, n, k, A, la, ca, B, lb, cb⟩ := h
  clear ht
  obtain ⟨W0, hW0⟩ : ∃ W0, w.alloc (.cells #[.int .u8 (c : Int), .int .u8 (n : Int), .bool k, .slice A la ca, .slice B lb cb] 25) = W0 := ⟨_, rfl⟩
  have hk0 : Keeps [] w W0 := by rw [← hW0]; exact (Keeps.refl [] w).alloc _
  have hr0 : W0.heap[w.heap.size]? = some (.cells #[.int .u8 (c : Int), .int .u8 (n : Int), .bool k, .slice A la ca, .slice B lb cb] 25 (0, 0)) := by rw [← hW0]; exact heap_new8 w _
  have HK0 := Lib.hid hk0
  have HF := Lib.hid (fun X (hk : Keeps [] W0 X) => (five_facts (blk_keep hr0 hk (by simp))).1)
  have HA : Hid (∀ X, Keeps [] W0 X → BerAt X t ⟨c, n, k, A, la, ca, B, lb, cb⟩) := fun X hk => BerAt.grow (hk0.trans' hk) t _ HT.out
  have HL := Lib.hid (fun X hk => light_is t ⟨c, n, k, A, la, ca, B, lb, cb⟩ X (HA.out X hk))
  have hb := fun hz => light_bounds t 1 2000 (by decide) (by decide) (by decide) hz
  have hf := fun hz => light_fits t 2000 (by decide) hz
  obtain ⟨z, hz⟩ : ∃ z, leftB 1 2000 t = z := ⟨_, rfl⟩
  rw [hz] at HL hb hf
  obtain ⟨y0, y1, y2, y3, y4⟩ := HF.out W0 (Keeps.refl _ _)
  have HW0 := Lib.hid hW0
  clear hk0 hr0 hz hW0
  unfold BH.val at *
  rw [← HW0.out] at y0 y1 y2 y3 y4
  by_cases h0 : 0 ≤ z
  rotate_left
  · have hd : decide (0 ≤ z) = false := by simpa using h0
    rw [hd] at HL
    clear hb hf h0 hd
    go_enter Try.func3, Try.ntmps3
    go_wp2_with fail
    rw [HW0.out]
    refine (HL.out _ (Keeps.refl _ _)).mono ?_
    rintro e w1 ⟨rfl, hk1⟩
    have HK1 := Lib.hid (HK0.out.trans' hk1)
    clear hk1
    go_wp2_with fail
    refine (known5_any _).mono ?_
    rintro e w2 ⟨rfl, hk2⟩
    have HK2 := Lib.hid (HK1.out.trans' hk2)
    clear hk2
    go_wp2_with fail
    go_ret
    exact ⟨rfl, below_keeps HK2.out⟩
  have hd : decide (0 ≤ z) = true := by simpa using h0
  rw [hd] at HL
  have hb' := hb h0
  have hf' := hf h0
  have HEN := Lib.hid (fun X hk => encode_is t ⟨c, n, k, A, la, ca, B, lb, cb⟩ X (HA.out X hk) hf'.1 hf'.2)
  have HRC := Lib.hid (fun X hk => rcheck_is t ⟨c, n, k, A, la, ca, B, lb, cb⟩ X (by omega) (HA.out X hk))
  have HCK := Lib.hid (fun X hk => check_is t ⟨c, n, k, A, la, ca, B, lb, cb⟩ X (HA.out X hk) hf'.1 hf'.2)
  have HBY : Hid (∀ xs, encB t = .inr xs → bytesB t = xs ∧ xs.length ≤ 65536 ∧ ∀ X, Keeps [] W0 X → Calls Try.prog 16 #[BH.val ⟨c, n, k, A, la, ca, B, lb, cb⟩] X (BytesQ t X)) := fun xs hx => by
    have h9 := enc_bytes hx
    obtain ⟨h1, _, _, h4⟩ := encB_yes hx
    exact ⟨h9, h4, fun X hk => rbytes_is t ⟨c, n, k, A, la, ca, B, lb, cb⟩ X h1 (by rw [h9]; omega) (HA.out X hk)⟩
  have HCE := Lib.hid (check_enc t)
  obtain ⟨q, hq⟩ : ∃ q, checkB t = q := ⟨_, rfl⟩
  rw [hq] at HRC HCK HCE
  have HN := Lib.hid hf'.1
  unfold BH.val at *
  clear hb hf h0 hd hb' hf' hq
  go_enter Try.func3, Try.ntmps3
  go_wp2_with fail
  rw [HW0.out]
  refine (HL.out _ (Keeps.refl _ _)).mono ?_
  rintro e w1 ⟨rfl, hk1⟩
  have HK1 := Lib.hid hk1
  clear hk1 y0 y1 y2 y3 y4
  obtain ⟨y0, y1, y2, y3, y4⟩ := HF.out w1 HK1.out
  go_wp2_with fail
  refine (HEN.out _ HK1.out).mono ?_
  rintro e w2 ⟨hcase, hk2⟩
  have HK2 := Lib.hid (HK1.out.trans' hk2)
  have HCS := Lib.hid hcase
  clear hk2 hcase y0 y1 y2 y3 y4
  obtain ⟨y0, y1, y2, y3, y4⟩ := HF.out w2 HK2.out
  rcases HCS.out with ⟨xs, D, bd, he, rfl, hb2⟩ | ⟨no, he, rfl⟩
  rotate_left
  · have hno := (HCE.out.1 no he)
    obtain ⟨rfl, hno⟩ := hno
    have hni := beq_false_of_ne hno
    clear he HCS HEN HBY
    go_wp2_with fail
    refine (HRC.out _ HK2.out).mono ?_
    rintro e w3 ⟨rfl, hk3⟩
    have HK3 := Lib.hid (HK2.out.trans' hk3)
    clear hk3 y0 y1 y2 y3 y4
    obtain ⟨y0, y1, y2, y3, y4⟩ := HF.out w3 HK3.out
    go_wp2_with fail
    refine (HCK.out _ HK3.out).mono ?_
    rintro e w4 ⟨rfl, hk4⟩
    have HK4 := Lib.hid (HK3.out.trans' hk4)
    clear hk4 y0 y1 y2 y3 y4
    go_wp2_with fail
    refine (known5_any _).mono ?_
    rintro e w5 ⟨rfl, hk5⟩
    have HK5 := Lib.hid (HK0.out.trans' (HK4.out.trans' hk5))
    clear hk5
    go_wp2_with fail
    go_ret
    exact ⟨rfl, below_keeps HK5.out⟩
  obtain rfl : q = 0 := HCE.out.2 xs he
  obtain ⟨hxb, hxl, hrb⟩ := HBY.out xs he
  have HRB : Hid (∀ X, Keeps [] W0 X → Calls Try.prog 16 #[.agg #[.int .u8 (c : Int), .int .u8 (n : Int), .bool k, .slice A la ca, .slice B lb cb]] X fun e w' => ∃ D d, e = .returned (.slice D xs.length d) ∧ BytesAt w' (.slice D xs.length d) xs ∧ Keeps [] X w') := fun X hk => by
    have h9 := hrb X hk
    unfold BytesQ at h9
    rw [hxb] at h9
    exact h9
  have hdb := dec_back he
  have HDE := Lib.hid (fun X (hk : Keeps [] w2 X) => decode_is D xs.length bd xs X rfl (hb2.grow hk) (by omega))
  have hcv : ∀ X, Keeps [] w2 X → (convert 22 9 (.slice D xs.length bd)).run Try.prog X = .ok (.string ⟨xs.toArray⟩) X := fun X hk => conv_bytes (hb2.grow hk)
  have HCV := Lib.hid hcv
  have HDB := Lib.hid hdb
  obtain ⟨xl, hxn⟩ : ∃ xl, xs.length = xl := ⟨_, rfl⟩
  have HXN := Lib.hid hxn
  rw [hxn] at HRB HDE HCV ⊢
  clear he hcv hdb hb2 hxb hxl hrb hxn HCS HBY HEN HCE
  go_wp2_with fail
  refine (HRC.out _ HK2.out).mono ?_
  rintro e w3 ⟨rfl, hk3⟩
  have HD3 := Lib.hid hk3
  have HK3 := Lib.hid (HK2.out.trans' hk3)
  clear hk3 y0 y1 y2 y3 y4
  obtain ⟨y0, y1, y2, y3, y4⟩ := HF.out w3 HK3.out
  go_wp2_with fail
  refine (HCK.out _ HK3.out).mono ?_
  rintro e w4 ⟨rfl, hk4⟩
  have HD4 := Lib.hid (HD3.out.trans' hk4)
  have HK4 := Lib.hid (HK3.out.trans' hk4)
  clear hk4 y0 y1 y2 y3 y4
  go_wp2_with fail
  refine (HDE.out _ HD4.out).mono ?_
  rintro e w5 ⟨⟨t', h', hd, rfl, hat⟩ | ⟨no, hd, rfl⟩, hk5⟩
  rotate_left
  · rw [HDB.out] at hd; cases hd
  rw [HDB.out] at hd
  injection hd with hd
  subst hd
  have HD5 := Lib.hid (HD4.out.trans' hk5)
  have HK5 := Lib.hid (HK4.out.trans' hk5)
  obtain ⟨c', n', k', A', la', ca', B', lb', cb'⟩ := h'
  have HAT := Lib.hid hat
  clear hk5 hat
  unfold BH.val
  go_wp2_with fail
  have hk6 : Keeps [] w5 (w5.alloc (.cells #[.int .u8 (c' : Int), .int .u8 (n' : Int), .bool k', .slice A' la' ca', .slice B' lb' cb'] 25)) := (Keeps.refl [] w5).alloc _
  have hr6 : (w5.alloc (.cells #[.int .u8 (c' : Int), .int .u8 (n' : Int), .bool k', .slice A' la' ca', .slice B' lb' cb'] 25)).heap[w5.heap.size]? = some (.cells #[.int .u8 (c' : Int), .int .u8 (n' : Int), .bool k', .slice A' la' ca', .slice B' lb' cb'] 25 (0, 0)) := heap_new8 w5 _
  generalize w5.alloc (.cells #[.int .u8 (c' : Int), .int .u8 (n' : Int), .bool k', .slice A' la' ca', .slice B' lb' cb'] 25) = W6 at *
  have HK6 := Lib.hid (HK5.out.trans' hk6)
  have HSX : Hid (∀ X, Keeps [] W6 X → ((X.cell? ⟨w.heap.size, 0, none⟩ = some (.int .u8 (c : Int)) ∧ X.cell? ⟨w.heap.size, 1, none⟩ = some (.int .u8 (n : Int)) ∧ X.cell? ⟨w.heap.size, 2, none⟩ = some (.bool k) ∧ X.cell? ⟨w.heap.size, 3, none⟩ = some (.slice A la ca) ∧ X.cell? ⟨w.heap.size, 4, none⟩ = some (.slice B lb cb)) ∧ (X.cell? ⟨w5.heap.size, 0, none⟩ = some (.int .u8 (c' : Int)) ∧ X.cell? ⟨w5.heap.size, 1, none⟩ = some (.int .u8 (n' : Int)) ∧ X.cell? ⟨w5.heap.size, 2, none⟩ = some (.bool k') ∧ X.cell? ⟨w5.heap.size, 3, none⟩ = some (.slice A' la' ca') ∧ X.cell? ⟨w5.heap.size, 4, none⟩ = some (.slice B' lb' cb'))) ∧ (convert 22 9 (.slice D xl bd)).run Try.prog X = .ok (.string ⟨xs.toArray⟩) X) := fun X hk => ⟨⟨HF.out X (HK6.out.trans' hk), (five_facts (blk_keep hr6 hk (by simp))).1⟩, HCV.out X (HD5.out.trans' (hk6.trans' hk))⟩
  have HRS : Hid (∀ X, Keeps [] W6 X → Calls Try.prog 17 #[.agg #[.int .u8 (c' : Int), .int .u8 (n' : Int), .bool k', .slice A' la' ca', .slice B' lb' cb'], .agg #[.int .u8 (c : Int), .int .u8 (n : Int), .bool k, .slice A la ca, .slice B lb cb]] X fun e w' => e = .returned (.bool true) ∧ Keeps [] X w') := fun X hk => by
    have h9 := rsame_is t t ⟨c', n', k', A', la', ca', B', lb', cb'⟩ ⟨c, n, k, A, la, ca, B, lb, cb⟩ X (BerAt.grow (hk6.trans' hk) t _ HAT.out) (HA.out X (HK6.out.trans' hk))
    rw [sameB_refl] at h9
    exact h9
  have HBS : Hid (∀ X, Keeps [] W6 X → Calls Try.prog 18 #[.agg #[.int .u8 (c' : Int), .int .u8 (n' : Int), .bool k', .slice A' la' ca', .slice B' lb' cb'], .agg #[.int .u8 (c : Int), .int .u8 (n : Int), .bool k, .slice A la ca, .slice B lb cb]] X fun e w' => e = .returned (.bool true) ∧ Keeps [] X w') := fun X hk => by
    have h9 := bsame_is t t ⟨c', n', k', A', la', ca', B', lb', cb'⟩ ⟨c, n, k, A, la, ca, B, lb, cb⟩ X (BerAt.grow (hk6.trans' hk) t _ HAT.out) (HA.out X (HK6.out.trans' hk)) HN.out
    rw [sameB_refl] at h9
    exact h9
  have HRB6 : Hid (∀ X, Keeps [] W6 X → Calls Try.prog 16 #[.agg #[.int .u8 (c : Int), .int .u8 (n : Int), .bool k, .slice A la ca, .slice B lb cb]] X fun e w' => ∃ D d, e = .returned (.slice D xl d) ∧ (convert 22 9 (.slice D xl d)).run Try.prog w' = .ok (.string ⟨xs.toArray⟩) w' ∧ Keeps [] W6 w') := fun X hk => by
    refine (HRB.out X (HK6.out.trans' hk)).mono ?_
    rintro e w' ⟨D, d, rfl, h1, h2⟩
    exact ⟨D, d, rfl, conv_bytes h1, hk.trans' h2⟩
  clear hk6 hr6 HRB HDE HDB HRC HCK
  go_region_held (fun w' => ((w'.cell? ⟨w.heap.size, 0, none⟩ = some (.int .u8 (c : Int)) ∧ w'.cell? ⟨w.heap.size, 1, none⟩ = some (.int .u8 (n : Int)) ∧ w'.cell? ⟨w.heap.size, 2, none⟩ = some (.bool k) ∧ w'.cell? ⟨w.heap.size, 3, none⟩ = some (.slice A la ca) ∧ w'.cell? ⟨w.heap.size, 4, none⟩ = some (.slice B lb cb)) ∧ (w'.cell? ⟨w5.heap.size, 0, none⟩ = some (.int .u8 (c' : Int)) ∧ w'.cell? ⟨w5.heap.size, 1, none⟩ = some (.int .u8 (n' : Int)) ∧ w'.cell? ⟨w5.heap.size, 2, none⟩ = some (.bool k') ∧ w'.cell? ⟨w5.heap.size, 3, none⟩ = some (.slice A' la' ca') ∧ w'.cell? ⟨w5.heap.size, 4, none⟩ = some (.slice B' lb' cb'))) ∧ (convert 22 9 (.slice D xl bd)).run Try.prog w' = .ok (.string ⟨xs.toArray⟩) w') (exact HSX.out _ (by repeat (first | exact Keeps.refl [] _ | exact KK4.out | exact KK3.out | exact KK2.out | exact KK1.out | refine Keeps.drew ?_)))
    (first
    | (go_at_call 16; refine (HRB6.out _ (by repeat (first | exact Keeps.refl [] _ | refine Keeps.drew ?_))).mono ?_; rintro e v1 ⟨G, g, rfl, hcv1, kk⟩; have KK1 := Lib.hid kk; clear kk)
    | (go_at_call 17; refine (HRS.out _ (by repeat (first | exact KK1.out | refine Keeps.drew ?_))).mono ?_; rintro e v2 ⟨rfl, kk⟩; have KK2 := Lib.hid (KK1.out.trans' kk); clear kk)
    | (go_at_call 18; refine (HBS.out _ (by repeat (first | exact KK2.out | refine Keeps.drew ?_))).mono ?_; rintro e v3 ⟨rfl, kk⟩; have KK3 := Lib.hid (KK2.out.trans' kk); clear kk)
    | (go_at_call 11; refine (known5_any _).mono ?_; rintro e v4 ⟨rfl, kk⟩; have KK4 := Lib.hid (KK3.out.trans' kk); clear kk))
  all_goals
    go_wp2_with fail
    go_ret
    exact ⟨rfl, below_keeps (HK0.out.trans' (HK6.out.trans' KK4.out))⟩

end Go.Proofs.Ytnengckecooohaa
