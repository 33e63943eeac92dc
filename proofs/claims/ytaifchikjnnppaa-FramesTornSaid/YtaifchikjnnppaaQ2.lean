/- FramesTorn: of a frame whose head is cut off there is none. -/
import Derived.Test.YtaifchikjnnppaaQ1
namespace Go.Proofs.Ytaifchikjnnppaa
open Go.RowKit
set_option linter.unusedVariables false

/-- The frame whose head ends behind n bytes. -/
def torn (r : List UInt8) (n : Nat) : List UInt8 := (frameOf r).take n ++ (List.replicate (8 - n) 0 ++ (frameOf r).drop 8)
theorem torn_get {r : List UInt8} {n : Nat} (hn : n ≤ 7) (i : Nat) : (torn r n)[i]? = if n ≤ i ∧ i < 8 then some 0 else (frameOf r)[i]? := by
  have hl := frameOf_len r
  unfold torn
  by_cases h1 : i < n
  · rw [List.getElem?_append_left (by simp; omega), if_neg (by omega), List.getElem?_take, if_pos h1]
  · rw [List.getElem?_append_right (by simp; omega)]
    have e1 : ((frameOf r).take n).length = n := by simp; omega
    rw [e1]
    by_cases h2 : i < 8
    · rw [if_pos ⟨by omega, h2⟩, List.getElem?_append_left (by simp; omega), List.getElem?_replicate, if_pos (by omega)]
    · rw [if_neg (by omega), List.getElem?_append_right (by simp; omega), List.getElem?_drop]
      congr 1
      simp
      omega

theorem torn_none {r : List UInt8} {n : Nat} (hr : r.length ≤ 500) (hn : n ≤ 7) : framed (torn r n) = false := by
  rw [Bool.eq_false_iff]
  intro hf
  obtain ⟨_, h1, h2, h3, _, _⟩ := framed_iff.1 hf
  have g : ∀ i, (torn r n)[i]?.getD 0 = if n ≤ i ∧ i < 8 then 0 else (frameOf r)[i]?.getD 0 := fun i => by
    rw [torn_get hn]
    split <;> rfl
  have d4 : ∀ i, ((torn r n).drop 4)[i]? = (torn r n)[4 + i]? := fun i => List.getElem?_drop
  have f0 : ∀ i : Nat, i < 4 → (frameOf r)[i]?.getD 0 = ((four (r.length + 1))[i]?).getD 0 := fun i hi => by
    unfold frameOf
    rw [List.getElem?_append_left (by rw [four_len]; exact hi)]
  have f4 : ∀ i : Nat, i < 4 → (frameOf r)[4 + i]?.getD 0 = ((four (4294967295 - (r.length + 1)))[i]?).getD 0 := fun i hi => by
    unfold frameOf
    rw [List.getElem?_append_right (by rw [four_len]; omega), List.getElem?_append_left (by rw [four_len, four_len]; omega)]
    congr 2
    rw [four_len]
    omega
  have e0 := f0 0 (by decide)
  have e1 := f0 1 (by decide)
  have e2 := f0 2 (by decide)
  have e3 := f0 3 (by decide)
  have e4 := f4 0 (by decide)
  have e5 := f4 1 (by decide)
  have e6 := f4 2 (by decide)
  have e7 := f4 3 (by decide)
  simp only [four, List.getElem?_cons_zero, List.getElem?_cons_succ, Option.getD_some] at e0 e1 e2 e3 e4 e5 e6 e7
  unfold num4 at h1 h2 h3
  simp only [d4, g] at h1 h2 h3
  rw [e0, e1, e2, e3] at h1 h2
  rw [e0, e1, e2, e3, e4, e5, e6, e7] at h3
  have q : n = 0 ∨ n = 1 ∨ n = 2 ∨ n = 3 ∨ n = 4 ∨ n = 5 ∨ n = 6 ∨ n = 7 := by omega
  rcases q with rfl | rfl | rfl | rfl | rfl | rfl | rfl | rfl <;> simp at h1 h2 h3 <;> omega

theorem torn_len {r : List UInt8} {n : Nat} (hn : n ≤ 7) : (torn r n).length = r.length + 12 := by
  have hl := frameOf_len r
  simp [torn]
  omega

/-- While the head is cut: j bytes of it are noughts by now. -/
structure Cutting (w wr : World) (g c : Nat) (r : List UInt8) (n j : Nat) : Prop where
  cell : ∀ i u, (frameOf r)[i]? = some u → wr.cell? ⟨g, i, none⟩ = some (bv (if n ≤ i ∧ i < j then 0 else u))
  free : ∀ i, i < r.length + 12 → wr.frozen? ⟨g, i, none⟩ = false
  keep : Keeps [g] w wr
  lt : g < wr.heap.size

theorem Cutting.next {w wr : World} {g c : Nat} {r : List UInt8} {n j : Nat} (h : Cutting w wr g c r n j) (hn : n ≤ j) (hj : j < 8) : Cutting w (wr.setCell ⟨g, j, none⟩ (.int .u8 0)) g c r n (j + 1) := by
  refine ⟨fun i u hu => ?_, fun i hi => ?_, h.keep.setCell (.inl (by simp)) _, by show g < (wr.heap.modify _ _).size; rw [Array.size_modify]; exact h.lt⟩
  · by_cases hij : i = j
    · subst hij
      have := h.cell i u hu
      rw [if_pos ⟨hn, by omega⟩]
      exact World.cell?_setCell_same' _ _ _ (by rw [this]; rfl)
    · have e : (wr.setCell ⟨g, j, none⟩ (.int .u8 0)).cell? ⟨g, i, none⟩ = wr.cell? ⟨g, i, none⟩ := World.cell?_setCell_other _ _ _ _ (by intro h; cases h; exact hij rfl)
      rw [e, h.cell i u hu]
      by_cases hc : n ≤ i ∧ i < j
      · rw [if_pos hc, if_pos ⟨hc.1, by omega⟩]
      · rw [if_neg hc, if_neg (by omega)]
  · rw [World.frozen?_setCell]
    exact h.free i hi

theorem Cutting.done {w wr : World} {g c : Nat} {r : List UInt8} {n : Nat} (h : Cutting w wr g c r n 8) (hn : n ≤ 7) (hc : r.length + 12 ≤ c) (hm : c ≤ maxLen) : BytesAt wr (.slice (some ⟨g, 0, none⟩) (r.length + 12) c) (torn r n) := by
  refine ⟨_, c, by rw [torn_len hn], by rw [torn_len hn]; exact hc, hm, fun _ => ⟨g, 0, rfl, fun i u hu => ?_⟩⟩
  rw [Nat.zero_add]
  rw [torn_get hn] at hu
  have hi : i < (frameOf r).length := by
    rw [frameOf_len]
    split at hu
    · omega
    · have := (List.getElem?_eq_some_iff.1 hu).1
      rwa [frameOf_len] at this
  have h0 := h.cell i _ (List.getElem?_eq_getElem hi)
  rw [h0]
  split at hu
  · rename_i hc
    rw [if_pos hc]
    injection hu with hu
    rw [hu]
  · rename_i hc
    rw [if_neg hc]
    rw [List.getElem?_eq_getElem hi] at hu
    injection hu with hu
    rw [hu]

set_option maxHeartbeats 1000000 in
theorem torn_in (A : Option Addr) (n c k : Nat) (r : List UInt8) (w : World) (hn : r.length = n) (hb : BytesAt w (.slice A n c) r) (h5 : n ≤ 500) (hk : k ≤ 7) : Calls Try.prog 5 #[.slice A n c, .int .i64 (k : Int)] w fun e w' => e = .returned (.bool true) ∧ Keeps [] w w' := by
  have HF := Lib.hid (frame_ok A n c r w hn hb (by omega))
  have HN := Lib.hid hn
  have hnone := torn_none (r := r) (by omega) hk
  have HO : Hid (fstR (torn r k) = [] ∧ fstN (torn r k) = 0 ∧ framed (torn r k) = false ∧ offs (recs (torn r k)) = 0) := ⟨by simp [fstR, hnone], by simp [fstN, hnone], hnone, by rw [recs_nil hnone]; rfl⟩
  clear hb hn hnone
  go_enter Try.func5, Try.ntmps5
  go_wp2_with fail
  refine HF.out.mono ?_
  rintro e w1 ⟨g, cp, rfl, hg, hM, hk1⟩
  have HM := Lib.hid hM
  have HK1 := Lib.hid hk1
  have hgl := hM.lt
  have hcp := hM.len
  have hcm := hM.cap
  rw [frameOf_len, HN.out] at hcp
  have hcm2 : cp ≤ 9223372036854775807 := by unfold maxLen at hcm; omega
  have HCM := Lib.hid hcm
  have HC0 : Hid (Cutting w1 w1 g cp r k k) := ⟨fun i u hu => by rw [if_neg (by omega)]; exact hM.cell i u hu, fun i hi => hM.free i (by rw [frameOf_len]; exact hi), Keeps.refl _ _, hgl⟩
  clear hM hk1 HF hcm
  go_wp2
  go_loopw [7] (fun i wr => ∃ j : Nat, i = .int .i64 (j : Int) ∧ k ≤ j ∧ j ≤ 8 ∧ Hid (Cutting w1 wr g cp r k j)) (fun i _ => 8 - (intOf i).toNat)
  case atStart => exact ⟨k, rfl, Nat.le_refl _, by omega, HC0⟩
  case round =>
    obtain ⟨j, rfl, hkj, hj, HC⟩ := hrel
    by_cases hlt : j < 8
    · have hjl : j < (frameOf r).length := by rw [frameOf_len]; omega
      have c0 := HC.out.cell j _ (List.getElem?_eq_getElem hjl)
      have f0 := HC.out.free j (by omega)
      unfold bv at c0
      have HX := Lib.hid (HC.out.next hkj hlt)
      go_wp2_with fail
      go_roundw
      case rel => exact ⟨j + 1, by go_num, by omega, by omega, HX⟩
      case measure => simp [intOf]; omega
    · obtain rfl : j = 8 := by omega
      have hbt := HC.out.done hk (by rw [HN.out]; exact hcp) HCM.out
      rw [HN.out] at hbt
      have htl := torn_len (r := r) hk
      rw [HN.out] at htl
      have H1 := Lib.hid (first_is _ (n + 12) cp (torn r k) wr htl hbt)
      have HBT := Lib.hid hbt
      have HTL := Lib.hid htl
      rw [HO.out.1, HO.out.2.1, HO.out.2.2.1] at H1
      clear hbt htl
      go_wp2_with fail
      refine H1.out.mono ?_
      rintro e w2 ⟨B, d, rfl, _, _, hk2⟩
      have H2 := Lib.hid (end_is _ (n + 12) cp (torn r k) w2 HTL.out (HBT.out.grow hk2))
      rw [HO.out.2.2.2] at H2
      have HK2 := Lib.hid hk2
      rw [show ((([] : List UInt8).length : Nat)) = 0 from rfl]
      clear hk2 H1
      go_wp2_with fail
      refine H2.out.mono ?_
      rintro e w3 ⟨rfl, hk3⟩
      have HK3 := Lib.hid (HK2.out.trans' hk3)
      clear hk3 H2
      go_wp2_with fail
      refine (known3_any w3).mono ?_
      rintro e w4 ⟨rfl, hk4⟩
      have HK4 : Hid (Keeps [] w w4) := HK1.out.trans (HC.out.keep.trans (HK3.out.trans' hk4) (by simp)) (fun x hx => .inr (by simp at hx; subst hx; have := HM.out; omega))
      clear hk4
      go_wp2_with fail
      go_ret
      exact ⟨rfl, HK4.out⟩

theorem torn_any (A : Option Addr) (n c : Nat) (k : Int) (r : List UInt8) (w : World) (hn : r.length = n) (hb : BytesAt w (.slice A n c) r) (hm : n ≤ 9223372036854775807) : Calls Try.prog 5 #[.slice A n c, .int .i64 k] w fun e w' => e = .returned (.bool true) ∧ Keeps [] w w' := by
  by_cases h5 : 500 < n
  · clear hb
    go_enter Try.func5, Try.ntmps5
    go_wp2_with fail
    refine (known3_any w).mono ?_
    rintro e w1 ⟨rfl, hk1⟩
    have HK1 := Lib.hid hk1
    clear hk1
    go_wp2_with fail
    go_ret
    exact ⟨rfl, HK1.out⟩
  · by_cases h7 : 0 ≤ k ∧ k ≤ 7
    · obtain ⟨m, rfl⟩ : ∃ m : Nat, k = (m : Int) := ⟨k.toNat, by omega⟩
      exact torn_in A n c m r w hn hb (by omega) (by omega)
    · have h5' : n ≤ 500 := by omega
      clear hb h5
      rcases Int.lt_or_le k 0 with h0 | h0
      · clear h7
        go_enter Try.func5, Try.ntmps5
        go_wp2_with fail
        refine (known3_any w).mono ?_
        rintro e w1 ⟨rfl, hk1⟩
        have HK1 := Lib.hid hk1
        clear hk1
        go_wp2_with fail
        go_ret
        exact ⟨rfl, HK1.out⟩
      · have h8 : 7 < k := by omega
        clear h7
        go_enter Try.func5, Try.ntmps5
        go_wp2_with fail
        refine (known3_any w).mono ?_
        rintro e w1 ⟨rfl, hk1⟩
        have HK1 := Lib.hid hk1
        clear hk1
        go_wp2_with fail
        go_ret
        exact ⟨rfl, HK1.out⟩

theorem torn_row (A : Option Addr) (n c : Nat) (r : List UInt8) (k : Int) (w : World) (hb : BytesAt w (.slice A n c) r) (hn : r.length = n) (hm : n ≤ 9223372036854775807) : Calls Try.prog 5 #[.slice A n c, .int .i64 k] w fun e w' => e = .returned (.bool true) ∧ Below w.heap.size w w' :=
  (torn_any A n c k r w hn hb hm).mono fun e w' ⟨h1, h2⟩ => ⟨h1, h2.below (Nat.le_refl _) (by simp)⟩

end Go.Proofs.Ytaifchikjnnppaa
