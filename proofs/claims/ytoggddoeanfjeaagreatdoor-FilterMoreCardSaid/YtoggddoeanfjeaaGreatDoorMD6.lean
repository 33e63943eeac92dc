/- Texts of one proof, laid together: F54. -/
import Derived.Test.YtoggddoeanfjeaaGreatDoorMB6
import Derived.Test.YtoggddoeanfjeaaGreatDoorMB4
import Derived.BigQuiet
/- filter: the document's Means; walked. -/
namespace Go.Proofs.YtoggddoeanfjeaaGreatDoor
open Go.RowKit Go.Shelf
set_option linter.unusedVariables false
set_option linter.unusedSimpArgs false
set_option maxRecDepth 100000

theorem begP_short {p s : Txt} (h : s.length < p.length) : begP p s = false := by
  unfold begP
  rw [beq_eq_false_iff_ne]
  intro h9
  have := congrArg List.length h9
  rw [List.length_take] at this
  omega
theorem begP_same {p s : Txt} (h : s = p) : begP p s = true := by
  subst h
  unfold begP
  rw [List.take_length]
  simp
theorem mean_low {own : List Att} {k : Int} {l : List FV} {s v : Txt} : meanF own [] (lowF (.mk k l s v)) = meanK own [] k (smallL s) v (l.map fun t => meanF own [] (lowF t)) := by
  simp only [lowF, meanF]
  rw [meanFL_map, lowFL_map, List.map_map]
  rfl
theorem vals_low {own : List Att} {s : Txt} : valsS own [] (smallL s) = cont2 own (smallL s) := by
  unfold valsS
  simp [smallL_idem]
theorem mean_and_one {own : List Att} {l : List FV} {s v : Txt} {t : FV} (ht : t ∈ l) (h : meanF own [] (lowF t) = false) : meanF own [] (lowF (.mk 1 l s v)) = false := by
  rw [mean_low]
  unfold meanK
  rw [if_pos rfl]
  have : (l.map fun t => meanF own [] (lowF t)).contains false = true := by
    rw [List.contains_iff_mem]
    exact List.mem_map.2 ⟨t, ht, h⟩
  rw [this]; rfl
theorem mean_and_all {own : List Att} {l : List FV} {s v : Txt} (h : ∀ t ∈ l, meanF own [] (lowF t) = true) : meanF own [] (lowF (.mk 1 l s v)) = true := by
  rw [mean_low]
  unfold meanK
  rw [if_pos rfl]
  have : (l.map fun t => meanF own [] (lowF t)).contains false = false := by
    rw [Bool.eq_false_iff]
    intro h9
    rw [List.contains_iff_mem] at h9
    obtain ⟨t, h1, h2⟩ := List.mem_map.1 h9
    rw [h t h1] at h2
    cases h2
  rw [this]; rfl
theorem mean_or_one {own : List Att} {l : List FV} {s v : Txt} {t : FV} (ht : t ∈ l) (h : meanF own [] (lowF t) = true) : meanF own [] (lowF (.mk 2 l s v)) = true := by
  rw [mean_low]
  unfold meanK
  rw [if_neg (by decide), if_pos rfl, List.contains_iff_mem]
  exact List.mem_map.2 ⟨t, ht, h⟩
theorem mean_or_all {own : List Att} {l : List FV} {s v : Txt} (h : ∀ t ∈ l, meanF own [] (lowF t) = false) : meanF own [] (lowF (.mk 2 l s v)) = false := by
  rw [mean_low]
  unfold meanK
  rw [if_neg (by decide), if_pos rfl, Bool.eq_false_iff]
  intro h9
  rw [List.contains_iff_mem] at h9
  obtain ⟨t, h1, h2⟩ := List.mem_map.1 h9
  rw [h t h1] at h2
  cases h2
theorem mean_not {own : List Att} {l : List FV} {s v : Txt} {x : FV} (h : l[0]? = some x) : meanF own [] (lowF (.mk 3 l s v)) = !(meanF own [] (lowF x)) := by
  rw [mean_low]
  unfold meanK
  rw [if_neg (by decide), if_neg (by decide), if_pos rfl]
  cases l with
  | nil => cases h
  | cons a b => cases h; rfl
theorem mean_value_one {own : List Att} {l : List FV} {s v x : Txt} (hx : x ∈ cont2 own (smallL s)) (h : (smallL x == smallL v) = true) : meanF own [] (lowF (.mk 4 l s v)) = true := by
  rw [mean_low]
  unfold meanK
  rw [if_neg (by decide), if_neg (by decide), if_neg (by decide), if_pos rfl, vals_low, List.any_eq_true]
  exact ⟨x, hx, h⟩
theorem mean_value_all {own : List Att} {l : List FV} {s v : Txt} (h : (cont2 own (smallL s)).any (fun x => smallL x == smallL v) = false) : meanF own [] (lowF (.mk 4 l s v)) = false := by
  rw [mean_low]
  unfold meanK
  rw [if_neg (by decide), if_neg (by decide), if_neg (by decide), if_pos rfl, vals_low]
  exact h
theorem mean_begin_one {own : List Att} {l : List FV} {s v x : Txt} (hx : x ∈ cont2 own (smallL s)) (h : begP (smallL v) (smallL x) = true) : meanF own [] (lowF (.mk 5 l s v)) = true := by
  rw [mean_low]
  unfold meanK
  rw [if_neg (by decide), if_neg (by decide), if_neg (by decide), if_neg (by decide), if_pos rfl, vals_low, List.any_eq_true]
  exact ⟨x, hx, h⟩
theorem mean_begin_all {own : List Att} {l : List FV} {s v : Txt} (h : (cont2 own (smallL s)).any (fun x => begP (smallL v) (smallL x)) = false) : meanF own [] (lowF (.mk 5 l s v)) = false := by
  rw [mean_low]
  unfold meanK
  rw [if_neg (by decide), if_neg (by decide), if_neg (by decide), if_neg (by decide), if_pos rfl, vals_low]
  exact h
theorem mean_has {own : List Att} {l : List FV} {s v : Txt} : meanF own [] (lowF (.mk 6 l s v)) = decide (0 < (cont2 own (smallL s)).length) := by
  rw [mean_low]
  unfold meanK
  rw [if_neg (by decide), if_neg (by decide), if_neg (by decide), if_neg (by decide), if_neg (by decide), vals_low]
theorem thruL_each (ok : FV → Bool) (d : Nat) : ∀ (l : List FV) (m n : Nat), thruL ok d m l = some n → ∀ t ∈ l, ∃ m' n', thruF ok d m' t = some n'
  | [], m, n, h, t, ht => by cases ht
  | x :: r, m, n, h, t, ht => by
    unfold thruL at h
    cases hq : thruF ok d m x with
    | none => rw [hq] at h; cases h
    | some n1 =>
      rw [hq] at h
      rcases List.mem_cons.1 ht with rfl | ht
      · exact ⟨m, n1, hq⟩
      · exact thruL_each ok d r n1 n h t ht
theorem thruF_kids {d m n : Nat} {k : Int} {l : List FV} {s v : Txt} (h : thruF aloneF d m (.mk k l s v) = some n) : aloneH k l.length s v = true ∧ ∀ t ∈ l, ∃ d' m' n', thruF aloneF d' m' t = some n' := by
  by_cases hc : m < 200 ∧ d ≤ 16
  · rw [thrF_in hc] at h
    cases hq : thruL aloneF (d + 1) (m + 1) l with
    | none => rw [hq] at h; cases h
    | some n1 =>
      rw [hq] at h
      dsimp only at h
      split at h
      · rename_i ha
        exact ⟨ha, fun t ht => by obtain ⟨m', n', h9⟩ := thruL_each aloneF (d + 1) l (m + 1) n1 hq t ht; exact ⟨d + 1, m', n', h9⟩⟩
      · cases h
  · rw [thrF_none hc] at h; cases h
set_option maxHeartbeats 16000000 in
theorem rmeans8_is (A0 : Option Addr) (N0 c0 : Nat) (el : List At7) : ∀ (t : FV) (h : FH) (w : World), (∃ d m n, thruF aloneF d m t = some n) → FilAt w t h → EntIn w A0 N0 el → N0 ≤ 100000 →
    Calls Tryz.prog 17 #[h.val, .slice A0 N0 c0] w fun e w' => e = .returned (.bool (meanF (ents el) [] (lowF t))) ∧ Keeps [] w w' := by
  intro t
  induction t using FV.ind with
  | h k l s v ih =>
    intro h w hr ht hE hN
    obtain ⟨d0, m0, n0, hr⟩ := hr
    obtain ⟨hal, hkids⟩ := thruF_kids hr
    obtain ⟨rfl, rfl, rfl, h4, h5, h6, h7, h8, h9, h10, h11⟩ := ht
    obtain ⟨k, B, lb, cb, s, v⟩ := h
    have hl : l.length = lb := h8
    have hlb : lb ≤ 9223372036854775807 := Nat.le_trans h9 h10
    dsimp only at h6 h7 hal h11
    have HAL : Hid (aloneH k lb s v = true) := by rw [← hl]; exact hal
    have HI := Lib.hid h11
    have HL := Lib.hid hl
    have HCH : Hid (∀ x ∈ l, ∀ (hh : FH) X, Keeps [] w X → FilAt X x hh → Calls Tryz.prog 17 #[hh.val, .slice A0 N0 c0] X fun e w' => e = .returned (.bool (meanF (ents el) [] (lowF x))) ∧ Keeps [] X w') := fun x hx hh X hX hf => ih x hx hh X (hkids x hx) hf (hE.grow hX) hN
    have HGE := Lib.hid (fun X (hX : Keeps [] w X) => rget_is A0 N0 c0 el s X (hE.grow hX) hN h6)
    have HSV := Lib.hid (fun X : World => rsmall_is v X h7)
    have HK : Hid (Keeps [] w (w.alloc (.cells #[.int .i64 k, .slice B lb cb, .string ⟨s.toArray⟩, .string ⟨v.toArray⟩] 25))) := (Keeps.refl [] w).alloc _
    have HB0 := Lib.hid (heap_new8 w (.cells #[.int .i64 k, .slice B lb cb, .string ⟨s.toArray⟩, .string ⟨v.toArray⟩] 25))
    obtain ⟨⟨z0, z1, z2, z3⟩, _⟩ := four_facts8 HB0.out
    obtain ⟨P, hP⟩ : ∃ P, meanF (ents el) [] (lowF (.mk k l s v)) = P := ⟨_, rfl⟩
    dsimp only
    rw [hP]
    have HP := Lib.hid hP
    have hkk := alone_kinds hal
    have hkr : k = 1 ∨ k = 2 ∨ k = 3 ∨ k = 4 ∨ k = 5 ∨ k = 6 := by omega
    obtain ⟨z, hz⟩ : ∃ z, smallL v = z := ⟨_, rfl⟩
    have HSL := Lib.hid hz
    rw [hz] at HSV
    unfold FH.val tv at *
    dsimp only at HGE ⊢
    clear hr hal hkids h4 h5 h6 h7 h8 h9 h10 h11 hl ih hE hP hkk hz
    go_enter Tryz.func17, Tryz.ntmps17
    go_wp2_with fail
    refine (HGE.out _ HK.out).mono ?_
    rintro e w1 ⟨VA, VC, rfl, hvi, hvc, hvm, hk1⟩
    have HK1 := Lib.hid (HK.out.trans' hk1)
    have HB1 := Lib.hid (blk_keep HB0.out hk1 (by simp))
    obtain ⟨VN, hVN⟩ : ∃ n, (cont2 (ents el) (smallL s)).length = n := ⟨_, rfl⟩
    rw [hVN] at hvi hvc ⊢
    have HVN := Lib.hid hVN
    obtain ⟨⟨y0, y1, y2, y3⟩, _⟩ := four_facts8 HB1.out
    have hVNm : VN ≤ 9223372036854775807 := by omega
    have HVI1 := Lib.hid hvi
    clear hk1 z0 z1 z2 z3 hVN hvi hvc hvm
    go_wp2_with fail
    refine (HSV.out _).mono ?_
    rintro e w3 ⟨rfl, hk3⟩
    have HK3 := Lib.hid (HK1.out.trans' hk3)
    have HB3 := Lib.hid (blk_keep HB1.out hk3 (by simp))
    have HVI3 := Lib.hid (StrsIn.grow hk3 HVI1.out)
    obtain ⟨⟨z0, z1, z2, z3⟩, _⟩ := four_facts8 HB3.out
    clear hk3 y0 y1 y2 y3 HGE HSV HB0 HB1 HK HK1 HVI1
    rcases hkr with rfl | rfl | rfl | rfl | rfl | rfl
    · clear HVI3
      go_wp2_with fail
      go_loopw [7] (fun i wr => ∃ j : Nat, i = .int .i64 (j : Int) ∧ j ≤ lb ∧ Hid (∀ t ∈ l.take j, meanF (ents el) [] (lowF t) = true) ∧ Hid (Keeps [] w wr) ∧ Hid (wr.heap[w.heap.size]? = some (.cells #[.int .i64 1, .slice B lb cb, .string ⟨s.toArray⟩, .string ⟨v.toArray⟩] 25 (0, 0)))) (fun i _ => lb - (intOf i).toNat)
      case atStart => exact ⟨0, rfl, Nat.zero_le _, by simp [Hid], HK3.out, HB3.out⟩
      case round =>
        obtain ⟨j, rfl, hj, HS, HKR, HBX⟩ := hrel
        obtain ⟨⟨z0, z1, z2, z3⟩, _⟩ := four_facts8 HBX.out
        by_cases hlt : j < lb
        · have hx : l[j]? = some (l[j]'(by have := HL.out; omega)) := List.getElem?_eq_getElem _
          obtain ⟨b9, o1, hh, rfl, hc, hat⟩ := (FilsAt.grow HKR.out B 0 l HI.out).at_ j _ hx
          rw [Nat.zero_add] at hc
          obtain ⟨g0, g1, g2, g3⟩ := four_at hc
          have hmem : (l[j]'(by have := HL.out; omega)) ∈ l := List.getElem_mem _
          generalize hxx : l[j]'(by have := HL.out; omega) = x at *
          have HXX := Lib.hid hx
          have HMEM := Lib.hid hmem
          obtain ⟨k', B', lb', cb', s', v'⟩ := hh
          dsimp only at g0 g1 g2 g3
          have HREC := Lib.hid (HCH.out x hmem ⟨k', B', lb', cb', s', v'⟩ wr HKR.out hat)
          dsimp only at HREC
          have hji : (j : Int) < (lb : Int) := by omega
          have hj0 : (0 : Int) ≤ (j : Int) := by omega
          clear hx hat hc hxx hmem
          cases hq : meanF (ents el) [] (lowF x) with
          | false =>
            rw [hq] at HREC
            have HEE : Hid (P = false) := by show _ = _; rw [← HP.out]; exact mean_and_one HMEM.out hq
            clear hq
            go_wp2_with fail
            refine HREC.out.mono ?_
            rintro e w2 ⟨rfl, hk2⟩
            have HK2 := Lib.hid (HKR.out.trans' hk2)
            clear hk2
            go_wp2_with fail
            go_ret
            exact ⟨by rw [HEE.out]; rfl, HK2.out⟩
          | true =>
            rw [hq] at HREC
            have HSN : Hid (∀ t ∈ l.take (j + 1), meanF (ents el) [] (lowF t) = true) := fun t ht => by
              rw [List.take_add_one, HXX.out, List.mem_append] at ht
              rcases ht with ht | ht
              · exact HS.out t ht
              · simp at ht; rw [ht]; exact hq
            clear hq
            go_wp2_with fail
            refine HREC.out.mono ?_
            rintro e w2 ⟨rfl, hk2⟩
            have HK2 := Lib.hid (HKR.out.trans' hk2)
            have HBX2 := Lib.hid (blk_keep HBX.out hk2 (by simp))
            clear hk2
            go_wp2_with fail
            go_roundw
            case rel => exact ⟨j + 1, by go_num, by omega, HSN.out, HK2.out, HBX2.out⟩
            case measure => simp [intOf]; omega
        · obtain rfl : j = lb := by omega
          have HEE : Hid (P = true) := by
            have h9 := HS.out
            rw [List.take_of_length_le (by rw [HL.out]; exact Nat.le_refl _)] at h9
            show _ = _; rw [← HP.out]; exact mean_and_all h9
          go_wp2_with fail
          go_ret
          exact ⟨by rw [HEE.out]; rfl, HKR.out⟩
    · clear HVI3
      go_wp2_with fail
      go_loopw [8] (fun i wr => ∃ j : Nat, i = .int .i64 (j : Int) ∧ j ≤ lb ∧ Hid (∀ t ∈ l.take j, meanF (ents el) [] (lowF t) = false) ∧ Hid (Keeps [] w wr) ∧ Hid (wr.heap[w.heap.size]? = some (.cells #[.int .i64 2, .slice B lb cb, .string ⟨s.toArray⟩, .string ⟨v.toArray⟩] 25 (0, 0)))) (fun i _ => lb - (intOf i).toNat)
      case atStart => exact ⟨0, rfl, Nat.zero_le _, by simp [Hid], HK3.out, HB3.out⟩
      case round =>
        obtain ⟨j, rfl, hj, HS, HKR, HBX⟩ := hrel
        obtain ⟨⟨z0, z1, z2, z3⟩, _⟩ := four_facts8 HBX.out
        by_cases hlt : j < lb
        · have hx : l[j]? = some (l[j]'(by have := HL.out; omega)) := List.getElem?_eq_getElem _
          obtain ⟨b9, o1, hh, rfl, hc, hat⟩ := (FilsAt.grow HKR.out B 0 l HI.out).at_ j _ hx
          rw [Nat.zero_add] at hc
          obtain ⟨g0, g1, g2, g3⟩ := four_at hc
          have hmem : (l[j]'(by have := HL.out; omega)) ∈ l := List.getElem_mem _
          generalize hxx : l[j]'(by have := HL.out; omega) = x at *
          have HXX := Lib.hid hx
          have HMEM := Lib.hid hmem
          obtain ⟨k', B', lb', cb', s', v'⟩ := hh
          dsimp only at g0 g1 g2 g3
          have HREC := Lib.hid (HCH.out x hmem ⟨k', B', lb', cb', s', v'⟩ wr HKR.out hat)
          dsimp only at HREC
          have hji : (j : Int) < (lb : Int) := by omega
          have hj0 : (0 : Int) ≤ (j : Int) := by omega
          clear hx hat hc hxx hmem
          cases hq : meanF (ents el) [] (lowF x) with
          | true =>
            rw [hq] at HREC
            have HEE : Hid (P = true) := by show _ = _; rw [← HP.out]; exact mean_or_one HMEM.out hq
            clear hq
            go_wp2_with fail
            refine HREC.out.mono ?_
            rintro e w2 ⟨rfl, hk2⟩
            have HK2 := Lib.hid (HKR.out.trans' hk2)
            clear hk2
            go_wp2_with fail
            go_ret
            exact ⟨by rw [HEE.out]; rfl, HK2.out⟩
          | false =>
            rw [hq] at HREC
            have HSN : Hid (∀ t ∈ l.take (j + 1), meanF (ents el) [] (lowF t) = false) := fun t ht => by
              rw [List.take_add_one, HXX.out, List.mem_append] at ht
              rcases ht with ht | ht
              · exact HS.out t ht
              · simp at ht; rw [ht]; exact hq
            clear hq
            go_wp2_with fail
            refine HREC.out.mono ?_
            rintro e w2 ⟨rfl, hk2⟩
            have HK2 := Lib.hid (HKR.out.trans' hk2)
            have HBX2 := Lib.hid (blk_keep HBX.out hk2 (by simp))
            clear hk2
            go_wp2_with fail
            go_roundw
            case rel => exact ⟨j + 1, by go_num, by omega, HSN.out, HK2.out, HBX2.out⟩
            case measure => simp [intOf]; omega
        · obtain rfl : j = lb := by omega
          have HEE : Hid (P = false) := by
            have h9 := HS.out
            rw [List.take_of_length_le (by rw [HL.out]; exact Nat.le_refl _)] at h9
            show _ = _; rw [← HP.out]; exact mean_or_all h9
          go_wp2_with fail
          go_ret
          exact ⟨by rw [HEE.out]; rfl, HKR.out⟩
    · clear HVI3
      have hlb1 : lb = 1 := by have := (alone_kinds HAL.out).2.2 rfl; omega
      subst hlb1
      have hx : l[0]? = some (l[0]'(by have := HL.out; omega)) := List.getElem?_eq_getElem _
      obtain ⟨b9, o1, hh, rfl, hc, hat⟩ := (FilsAt.grow HK3.out B 0 l HI.out).at_ 0 _ hx
      rw [Nat.zero_add, Nat.zero_mul, Nat.add_zero] at hc
      obtain ⟨g0, g1, g2, g3⟩ := four_at hc
      have hmem : (l[0]'(by have := HL.out; omega)) ∈ l := List.getElem_mem _
      generalize hxx : l[0]'(by have := HL.out; omega) = x at *
      obtain ⟨k', B', lb', cb', s', v'⟩ := hh
      dsimp only at g0 g1 g2 g3
      have HREC := Lib.hid (HCH.out x hmem ⟨k', B', lb', cb', s', v'⟩ w3 HK3.out hat)
      dsimp only at HREC
      have HEE : Hid (P = !(meanF (ents el) [] (lowF x))) := by show _ = _; rw [← HP.out]; exact mean_not hx
      generalize meanF (ents el) [] (lowF x) = q at HREC HEE
      clear hx hat hc hxx hmem
      go_wp2_with fail
      refine HREC.out.mono ?_
      rintro e w4 ⟨rfl, hk4⟩
      have HK4 := Lib.hid (HK3.out.trans' hk4)
      clear hk4
      go_wp2_with fail
      go_ret
      exact ⟨by rw [HEE.out]; first | rfl | simp, HK4.out⟩
    · have HVI := Lib.hid (fun X (hX : Keeps [] w X) (hX3 : Keeps [] w3 X) => StrsIn.grow hX3 HVI3.out)
      go_wp2_with fail
      go_loopw [9] (fun i wr => ∃ j : Nat, i = .int .i64 (j : Int) ∧ j ≤ VN ∧ Hid (((cont2 (ents el) (smallL s)).take j).any (fun x => smallL x == smallL v) = false) ∧ Hid (Keeps [] w wr) ∧ Hid (Keeps [] w3 wr) ∧ Hid (wr.heap[w.heap.size]? = some (.cells #[.int .i64 4, .slice B lb cb, .string ⟨s.toArray⟩, .string ⟨v.toArray⟩] 25 (0, 0)))) (fun i _ => VN - (intOf i).toNat)
      case atStart => exact ⟨0, rfl, Nat.zero_le _, by simp [Hid], HK3.out, Keeps.refl _ _, HB3.out⟩
      case round =>
        obtain ⟨j, rfl, hj, HS, HKR, HKV, HBX⟩ := hrel
        obtain ⟨⟨z0, z1, z2, z3⟩, _⟩ := four_facts8 HBX.out
        by_cases hlt : j < VN
        · obtain ⟨x, hx⟩ : ∃ x, (cont2 (ents el) (smallL s))[j]? = some x := ⟨_, List.getElem?_eq_getElem (by have := HVN.out; omega)⟩
          obtain ⟨b9, o9, rfl, hc9⟩ := (HVI.out wr HKR.out HKV.out).2.2 (by omega)
          have c9 := hc9 j x hx
          unfold tv at c9
          have HXX := Lib.hid hx
          have HMEM := Lib.hid (List.mem_of_getElem? hx)
          have HSM := Lib.hid (fun X : World => rsmall_is x X ((HVI.out wr HKR.out HKV.out).2.1 x (List.mem_of_getElem? hx)))
          have hji : (j : Int) < (VN : Int) := by omega
          have hj0 : (0 : Int) ≤ (j : Int) := by omega
          clear hx hc9
          cases hq : (smallL x == smallL v) with
          | true =>
            have HEE : Hid (P = true) := by show _ = _; rw [← HP.out]; exact mean_value_one HMEM.out hq
            have hyz : smallL x = z := by rw [← HSL.out]; simpa using hq
            rw [hyz] at HSM
            clear hq hyz
            go_wp2_with fail
            refine (HSM.out _).mono ?_
            rintro e w2 ⟨rfl, hk2⟩
            have HK2 := Lib.hid (HKR.out.trans' hk2); have HKV2 := Lib.hid (HKV.out.trans' hk2)
            clear hk2
            go_wp2_with fail
            go_ret
            exact ⟨by rw [HEE.out]; rfl, HK2.out⟩
          | false =>
            have HSN : Hid (((cont2 (ents el) (smallL s)).take (j + 1)).any (fun x => smallL x == smallL v) = false) := by
              show _ = _
              rw [List.take_add_one, HXX.out, List.any_append, HS.out]
              simp [show (smallL x == smallL v) = false from hq]
            rw [HSL.out] at hq
            generalize smallL x = y at HSM hq
            go_wp2_with fail
            refine (HSM.out _).mono ?_
            rintro e w2 ⟨rfl, hk2⟩
            have HK2 := Lib.hid (HKR.out.trans' hk2); have HKV2 := Lib.hid (HKV.out.trans' hk2)
            have HBX2 := Lib.hid (blk_keep HBX.out hk2 (by simp))
            obtain ⟨⟨y0, y1, y2, y3⟩, _⟩ := four_facts8 HBX2.out
            clear hk2 z0 z1 z2 z3
            go_wp2_with fail
            go_roundw
            case rel => exact ⟨j + 1, by go_num, by omega, HSN.out, HK2.out, HKV2.out, HBX2.out⟩
            case measure => simp [intOf]; omega
        · obtain rfl : j = VN := by omega
          have HEE : Hid (P = false) := by
            have h9 := HS.out
            rw [List.take_of_length_le (by rw [HVN.out]; exact Nat.le_refl _)] at h9
            show _ = _; rw [← HP.out]; exact mean_value_all h9
          go_wp2_with fail
          go_ret
          exact ⟨by rw [HEE.out]; rfl, HKR.out⟩
    · have HVI := Lib.hid (fun X (hX : Keeps [] w X) (hX3 : Keeps [] w3 X) => StrsIn.grow hX3 HVI3.out)
      go_wp2_with fail
      go_loopw [9] (fun i wr => ∃ j : Nat, i = .int .i64 (j : Int) ∧ j ≤ VN ∧ Hid (((cont2 (ents el) (smallL s)).take j).any (fun x => begP (smallL v) (smallL x)) = false) ∧ Hid (Keeps [] w wr) ∧ Hid (Keeps [] w3 wr) ∧ Hid (wr.heap[w.heap.size]? = some (.cells #[.int .i64 5, .slice B lb cb, .string ⟨s.toArray⟩, .string ⟨v.toArray⟩] 25 (0, 0)))) (fun i _ => VN - (intOf i).toNat)
      case atStart => exact ⟨0, rfl, Nat.zero_le _, by simp [Hid], HK3.out, Keeps.refl _ _, HB3.out⟩
      case round =>
        obtain ⟨j, rfl, hj, HS, HKR, HKV, HBX⟩ := hrel
        obtain ⟨⟨z0, z1, z2, z3⟩, _⟩ := four_facts8 HBX.out
        by_cases hlt : j < VN
        · obtain ⟨x, hx⟩ : ∃ x, (cont2 (ents el) (smallL s))[j]? = some x := ⟨_, List.getElem?_eq_getElem (by have := HVN.out; omega)⟩
          obtain ⟨b9, o9, rfl, hc9⟩ := (HVI.out wr HKR.out HKV.out).2.2 (by omega)
          have c9 := hc9 j x hx
          unfold tv at c9
          have HXX := Lib.hid hx
          have HMEM := Lib.hid (List.mem_of_getElem? hx)
          have HSM := Lib.hid (fun X : World => rsmall_is x X ((HVI.out wr HKR.out HKV.out).2.1 x (List.mem_of_getElem? hx)))
          have hji : (j : Int) < (VN : Int) := by omega
          have hj0 : (0 : Int) ≤ (j : Int) := by omega
          clear hx hc9
          cases hq : (smallL x == smallL v) with
          | true =>
            have HEE : Hid (P = true) := by show _ = _; rw [← HP.out]; exact mean_begin_one HMEM.out (begP_same (by simpa using hq))
            have hyz : smallL x = z := by rw [← HSL.out]; simpa using hq
            rw [hyz] at HSM
            clear hq hyz
            go_wp2_with fail
            refine (HSM.out _).mono ?_
            rintro e w2 ⟨rfl, hk2⟩
            have HK2 := Lib.hid (HKR.out.trans' hk2); have HKV2 := Lib.hid (HKV.out.trans' hk2)
            clear hk2
            go_wp2_with fail
            go_ret
            exact ⟨by rw [HEE.out]; rfl, HK2.out⟩
          | false =>
            obtain ⟨y, hy⟩ : ∃ y, smallL x = y := ⟨_, rfl⟩
            have HY := Lib.hid hy
            rw [HSL.out, hy] at hq
            rw [hy] at HSM
            obtain ⟨yl, hyl⟩ : ∃ n, y.length = n := ⟨_, rfl⟩
            obtain ⟨zl, hzl⟩ : ∃ n, z.length = n := ⟨_, rfl⟩
            have hyz : (⟨y.toArray⟩ : ByteArray).size = yl := hyl
            have hzz : (⟨z.toArray⟩ : ByteArray).size = zl := hzl
            have HYL := Lib.hid hyl
            have HZL := Lib.hid hzl
            clear hy
            by_cases hle : zl ≤ yl
            · have hlei : (zl : Int) ≤ (yl : Int) := by omega
              have hto := str_to8 y zl (by omega)
              have HBQ : Hid (begP z y = (y.take zl == z)) := by show _ = _; unfold begP; rw [HZL.out]
              cases hb : (y.take zl == z) with
              | true =>
                have HEE : Hid (P = true) := by show _ = _; rw [← HP.out]; exact mean_begin_one HMEM.out (by rw [HY.out, HSL.out, HBQ.out, hb])
                rw [show y.take zl = z by simpa using hb] at hto
                clear hb hyl hzl
                go_wp2_with fail
                refine (HSM.out _).mono ?_
                rintro e w2 ⟨rfl, hk2⟩
                have HK2 := Lib.hid (HKR.out.trans' hk2); have HKV2 := Lib.hid (HKV.out.trans' hk2)
                obtain ⟨⟨y0, y1, y2, y3⟩, _⟩ := four_facts8 (blk_keep HBX.out hk2 (by simp))
                clear hk2 z0 z1 z2 z3
                go_wp2_with fail
                go_ret
                exact ⟨by rw [HEE.out]; rfl, HK2.out⟩
              | false =>
                have HSN : Hid (((cont2 (ents el) (smallL s)).take (j + 1)).any (fun x => begP (smallL v) (smallL x)) = false) := by
                  show _ = _
                  rw [List.take_add_one, HXX.out, List.any_append, HS.out]
                  simp [show begP (smallL v) (smallL x) = false by rw [HY.out, HSL.out, HBQ.out, hb]]
                generalize y.take zl = u at hto hb
                clear hyl hzl
                go_wp2_with fail
                refine (HSM.out _).mono ?_
                rintro e w2 ⟨rfl, hk2⟩
                have HK2 := Lib.hid (HKR.out.trans' hk2); have HKV2 := Lib.hid (HKV.out.trans' hk2)
                have HBX2 := Lib.hid (blk_keep HBX.out hk2 (by simp))
                obtain ⟨⟨y0, y1, y2, y3⟩, _⟩ := four_facts8 HBX2.out
                clear hk2 z0 z1 z2 z3
                go_wp2_with fail
                go_roundw
                case rel => exact ⟨j + 1, by go_num, by omega, HSN.out, HK2.out, HKV2.out, HBX2.out⟩
                case measure => simp [intOf]; omega
            · have hlei : ¬ (zl : Int) ≤ (yl : Int) := by omega
              have HSN : Hid (((cont2 (ents el) (smallL s)).take (j + 1)).any (fun x => begP (smallL v) (smallL x)) = false) := by
                show _ = _
                rw [List.take_add_one, HXX.out, List.any_append, HS.out]
                simp [show begP (smallL v) (smallL x) = false by rw [HY.out, HSL.out]; exact begP_short (by have := HYL.out; have := HZL.out; omega)]
              clear hyl hzl
              go_wp2_with fail
              refine (HSM.out _).mono ?_
              rintro e w2 ⟨rfl, hk2⟩
              have HK2 := Lib.hid (HKR.out.trans' hk2); have HKV2 := Lib.hid (HKV.out.trans' hk2)
              have HBX2 := Lib.hid (blk_keep HBX.out hk2 (by simp))
              obtain ⟨⟨y0, y1, y2, y3⟩, _⟩ := four_facts8 HBX2.out
              clear hk2 z0 z1 z2 z3
              go_wp2_with fail
              go_roundw
              case rel => exact ⟨j + 1, by go_num, by omega, HSN.out, HK2.out, HKV2.out, HBX2.out⟩
              case measure => simp [intOf]; omega
        · obtain rfl : j = VN := by omega
          have HEE : Hid (P = false) := by
            have h9 := HS.out
            rw [List.take_of_length_le (by rw [HVN.out]; exact Nat.le_refl _)] at h9
            show _ = _; rw [← HP.out]; exact mean_begin_all h9
          go_wp2_with fail
          go_ret
          exact ⟨by rw [HEE.out]; rfl, HKR.out⟩
    · clear HVI3
      have HEE : Hid (P = decide (0 < VN)) := by show _ = _; rw [← HP.out, ← HVN.out]; exact mean_has
      by_cases h0 : 0 < VN
      · have h0i : (0 : Int) < (VN : Int) := by omega
        rw [show decide (0 < VN) = true by simpa using h0] at HEE
        go_wp2_with fail
        go_ret
        exact ⟨by rw [HEE.out]; simp, HK3.out⟩
      · have h0i : ¬ (0 : Int) < (VN : Int) := by omega
        rw [show decide (0 < VN) = false by simpa using h0] at HEE
        go_wp2_with fail
        go_ret
        exact ⟨by rw [HEE.out]; simp, HK3.out⟩
end Go.Proofs.YtoggddoeanfjeaaGreatDoor
