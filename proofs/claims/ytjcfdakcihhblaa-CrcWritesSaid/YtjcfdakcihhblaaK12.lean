/- CrcWrites. -/
import Derived.Test.YtjcfdakcihhblaaK9
namespace Go.Proofs.Ytjcfdakcihhblaa
open Go.RowKit
set_option linter.unusedVariables false

structure AdOk (Ad : World → Nat → List UInt8 → Prop) : Prop where
  keep : ∀ {w w' : World} {p : Nat} {xs : List UInt8} {bs : List Nat}, Ad w p xs → Keeps bs w w' → p ∉ bs → Ad w' p xs
  lt : ∀ {w : World} {p : Nat} {xs : List UInt8}, Ad w p xs → p < w.heap.size
  new : ∀ w : World, Calls Try.prog 14 #[] w fun e w' => ∃ p, e = .returned (.pointer (some ⟨p, 0, none⟩)) ∧ Ad w' p [] ∧ w.heap.size ≤ p ∧ Keeps [] w w'
  write : ∀ (w : World) (p : Nat) (xs : List UInt8) (A : Option Addr) (n c : Nat) (bs : List UInt8), Ad w p xs → BytesAt w (.slice A n c) bs → bs.length = n → n ≤ 3000 → xs.length ≤ 100000 → (0 < n → ∀ b, (Value.slice A n c).ownBlock = some b → b ≠ p) → Calls Try.prog 16 #[.pointer (some ⟨p, 0, none⟩), .slice A n c] w fun e w' => e = .returned (.int .i64 0) ∧ Ad w' p (xs ++ bs) ∧ Keeps [p] w w'
  sum : ∀ (w : World) (p : Nat) (xs : List UInt8), Ad w p xs → Calls Try.prog 17 #[.pointer (some ⟨p, 0, none⟩)] w fun e w' => e = .returned (.int .u32 (crcSum xs : Nat)) ∧ Keeps [] w w'
  len : ∀ (w : World) (p : Nat) (xs : List UInt8), Ad w p xs → xs.length ≤ 100000 → Calls Try.prog 18 #[.pointer (some ⟨p, 0, none⟩)] w fun e w' => e = .returned (.int .i64 (xs.length : Int)) ∧ Keeps [] w w'
  copy : ∀ (w : World) (p : Nat) (xs : List UInt8), Ad w p xs → Calls Try.prog 15 #[.pointer (some ⟨p, 0, none⟩)] w fun e w' => ∃ q, e = .returned (.pointer (some ⟨q, 0, none⟩)) ∧ Ad w' q xs ∧ w.heap.size ≤ q ∧ Keeps [] w w'

abbrev flat (l : List Part) : List UInt8 := l.flatMap fun x => x.bs

theorem PartsAt.take {w : World} {A : Option Addr} {len : Nat} {l : List Part} (h : PartsAt w A len l) {j : Nat} (hj : j ≤ len) : PartsAt w A j (l.take j) := by
  refine ⟨by rw [List.length_take, h.len]; omega, fun i x hx => ?_⟩
  rw [List.getElem?_take] at hx
  split at hx
  · exact h.at_ i x hx
  · cases hx

theorem total_one (x : Part) : total [x] = x.bs.length := by simp [total]

/-- Behind j parts: the sum under way, and its copy, if one was made. -/
structure WI (Ad : World → Nat → List UInt8 → Prop) (w wr : World) (p : Nat) (l : List Part) (cv av : Value) (j : Nat) : Prop where
  ad : Ad wr p (flat (l.take j))
  keeps : Keeps [] w wr
  pn : w.heap.size ≤ p
  cp : (cv = .pointer none ∧ av = .slice none 0 0) ∨ ∃ q B d m, cv = .pointer (some ⟨q, 0, none⟩) ∧ av = .slice B (total (l.take m)) d ∧ Ad wr q (flat (l.take m)) ∧ q ≠ p ∧ BytesAt wr (.slice B (total (l.take m)) d) (flat (l.take m)) ∧ (∀ b, (Value.slice B (total (l.take m)) d).ownBlock = some b → b ≠ p ∧ b ≠ q) ∧ w.heap.size ≤ q

theorem flat_snoc {l : List Part} {j : Nat} {x : Part} (h : l.take (j + 1) = l.take j ++ [x]) : flat (l.take (j + 1)) = flat (l.take j) ++ x.bs := by
  rw [h]
  simp [flat]

theorem flat_le {l : List Part} (j : Nat) (h : total l ≤ 3000) : (flat (l.take j)).length ≤ 3000 := by
  rw [flat, flat_len]
  have := total_le (l := l) j
  omega

/-- A part is written. -/
theorem WI.wrote {Ad : World → Nat → List UInt8 → Prop} (HA : AdOk Ad) {w wr w' : World} {p : Nat} {l : List Part} {cv av : Value} {j : Nat} {x : Part} (h : WI Ad w wr p l cv av j) (hx : l.take (j + 1) = l.take j ++ [x]) (ha : Ad w' p (flat (l.take j) ++ x.bs)) (hk : Keeps [p] wr w') : WI Ad w w' p l cv av (j + 1) := by
  refine ⟨by rw [flat_snoc hx]; exact ha, h.keeps.trans hk (fun y hy => .inr (by rw [List.mem_singleton] at hy; have := h.pn; omega)), h.pn, ?_⟩
  rcases h.cp with hc | ⟨q, B, d, m, h1, h2, h3, h4, h5, h6, h7⟩
  · exact .inl hc
  · exact .inr ⟨q, B, d, m, h1, h2, HA.keep h3 hk (by rw [List.mem_singleton]; exact h4), h4, h5.keep hk (fun b hb => by rw [List.mem_singleton]; exact (h6 b hb).1), h6, h7⟩

/-- A copy is made. -/
theorem WI.copied {Ad : World → Nat → List UInt8 → Prop} (HA : AdOk Ad) {w wr w2 w3 : World} {p q d : Nat} {l : List Part} {cv av : Value} {B : Option Addr} {j : Nat} (h : WI Ad w wr p l cv av j) (hq : Ad w2 q (flat (l.take j))) (hn : wr.heap.size ≤ q) (h2 : Keeps [] wr w2) (hB : BytesAt w3 (.slice B (total (l.take j)) d) (flat (l.take j))) (ho : ∀ b, (Value.slice B (total (l.take j)) d).ownBlock = some b → w2.heap.size ≤ b) (h3 : Keeps [] w2 w3) : WI Ad w w3 p l (.pointer (some ⟨q, 0, none⟩)) (.slice B (total (l.take j)) d) j := by
  have hp := HA.lt h.ad
  have hz := h.keeps.size
  have hz2 := h2.size
  have hq2 := HA.lt hq
  refine ⟨HA.keep (HA.keep h.ad h2 (by simp)) h3 (by simp), (h.keeps.trans' h2).trans' h3, h.pn, .inr ⟨q, B, d, j, rfl, rfl, HA.keep hq h3 (by simp), by omega, hB, fun b hb => ?_, by omega⟩⟩
  have := ho b hb
  omega

set_option maxHeartbeats 4000000 in
theorem crcwrites_in (HS0 : SumOk) (HT0 : StepOk) (Ad : World → Nat → List UInt8 → Prop) (HA0 : AdOk Ad) (A : Option Addr) (len c : Nat) (l : List Part) (a : Int) (w : World) (hl : PartsAt w A len l) (hm : len ≤ 9223372036854775807) (hcc : len ≤ c) (hcm : c ≤ 9223372036854775807) (hf : fewP l = true) (ha : -9223372036854775808 ≤ a ∧ a ≤ 9223372036854775807) :
    Calls Try.prog 4 #[.slice A len c, .int .i64 a] w fun e w' => e = .returned (.bool true) ∧ Keeps [] w w' := by
  have FW := Lib.hid (few2_is A len c l w hl hm)
  rw [hf] at FW
  obtain ⟨f1, f2, f3⟩ := fewP_true hf
  have h20 : len ≤ 20 := by rw [← hl.len]; exact f1
  have HL := Lib.hid hl
  have HA := Lib.hid HA0
  have HS := Lib.hid HS0
  have KN := fun W => Lib.hid (known2_any HS0 HT0 W)
  clear HS0 HT0 HA0 hl hf f1
  go_enter Try.func4, Try.ntmps4
  go_wp2_with fail
  refine FW.out.mono ?_
  rintro e w' ⟨rfl, rfl⟩
  go_wp2_with fail
  refine (HA.out.new _).mono ?_
  rintro e w1 ⟨p, rfl, had, hp, hk1⟩
  have HAD := Lib.hid had
  have HK1 := Lib.hid hk1
  clear had hk1 FW
  go_wp2_with fail
  have HW0 : Hid (WI Ad w w1 p l (.pointer none) (.slice none 0 0) 0) := ⟨by simpa [flat] using HAD.out, HK1.out, hp, .inl ⟨rfl, rfl⟩⟩
  clear HAD HK1
  go_loopw [6, 7, 8] (fun cv av i wr => ∃ j : Nat, i = .int .i64 (j : Int) ∧ j ≤ len ∧ Hid (WI Ad w wr p l cv av j)) (fun _ _ i _ => len - (intOf i).toNat)
  case atStart => exact ⟨0, rfl, Nat.zero_le _, HW0⟩
  case round =>
    obtain ⟨j, rfl, hj, HW⟩ := hrel
    by_cases hlt : j < len
    · have hll := HL.out.len
      have hx : l[j]? = some (l[j]'(by omega)) := List.getElem?_eq_getElem (by omega)
      obtain ⟨b, o, hA, c0, hb, hm2⟩ := HL.out.at_ j _ hx
      have htk : l.take (j + 1) = l.take j ++ [l[j]'(by omega)] := List.take_succ_eq_append_getElem (by omega)
      have hx3 := f2 _ (List.mem_of_getElem? hx)
      generalize l[j]'(by omega) = x at *
      subst hA
      have HT := Lib.hid htk
      have hfl := flat_le (l := l) j f3
      have hcn : ¬ c = 0 := by omega
      have hjc : (j : Int) ≤ (c : Int) := by omega
      have hj0 : 0 ≤ (j : Int) := by omega
      have HC0 := Lib.hid c0
      have HBX := Lib.hid hb
      have hblt : b < w.heap.size := lt_of_cell c0
      have hxo : Hid (0 < x.bs.length → ∀ bb, (Value.slice x.A x.bs.length x.c).ownBlock = some bb → bb ≠ p) := by
        intro h0 bb hbb
        have hpn := HW.out.pn
        have := hb.lt h0 bb hbb
        omega
      clear hb hx htk c0
      by_cases hja : (j : Int) = a
      · have e1 : ((j : Int) == a) = true := by simpa using hja
        clear hja
        go_wp2_with fail
        refine (HA.out.copy _ p _ HW.out.ad).mono ?_
        rintro e w2 ⟨q, rfl, hq, hnq, hk2⟩
        have HQ := Lib.hid (And.intro hq (And.intro hnq hk2))
        have JN := Lib.hid (joined2 (some ⟨b, o, none⟩) j c (l.take j) w2 ((HL.out.keep (HW.out.keeps.trans' hk2)).take (by omega)) (by omega) (Nat.le_trans (total_le j) f3))
        clear hq hnq hk2
        go_wp2_with fail
        refine JN.out.mono ?_
        rintro e w3 ⟨B, d, rfl, hB, hbo, hb3⟩
        have HW3 := Lib.hid (HW.out.copied HA.out HQ.out.1 HQ.out.2.1 HQ.out.2.2 hB hbo (Keeps.of_below hb3))
        have c1 := (HW3.out.keeps.cell (p := ⟨b, o + j, none⟩) hblt (by simp)).trans HC0.out
        clear hB hbo hb3 JN HQ
        go_wp2_with fail
        refine (HA.out.write _ p (flat (l.take j)) x.A x.bs.length x.c x.bs HW3.out.ad (HBX.out.grow HW3.out.keeps) rfl (by omega) (by omega) hxo.out).mono ?_
        rintro e w5 ⟨rfl, had5, hk5⟩
        have HW5 := Lib.hid (HW3.out.wrote HA.out HT.out had5 hk5)
        clear had5 hk5
        go_wp2_with fail
        go_roundw
        case rel => exact ⟨j + 1, by go_num, by omega, HW5⟩
        case measure => simp [intOf]; omega
      · have e1 : ((j : Int) == a) = false := by simpa using hja
        have c1 := (HW.out.keeps.cell (p := ⟨b, o + j, none⟩) hblt (by simp)).trans HC0.out
        clear hja
        go_wp2_with fail
        refine (HA.out.write _ p (flat (l.take j)) x.A x.bs.length x.c x.bs HW.out.ad (HBX.out.grow HW.out.keeps) rfl (by omega) (by omega) hxo.out).mono ?_
        rintro e w5 ⟨rfl, had5, hk5⟩
        have HW5 := Lib.hid (HW.out.wrote HA.out HT.out had5 hk5)
        clear had5 hk5
        go_wp2_with fail
        go_roundw
        case rel => exact ⟨j + 1, by go_num, by omega, HW5⟩
        case measure => simp [intOf]; omega
    · have he : l.take j = l := List.take_of_length_le (by have := HL.out.len; omega)
      have JN := Lib.hid (joined2 A len c l wr (HL.out.keep HW.out.keeps) h20 f3)
      have hfl : (flat l).length = total l := flat_len l
      have hAd := HW.out.ad
      rw [he] at hAd
      have HAD := Lib.hid hAd
      clear hAd he
      go_wp2_with fail
      refine JN.out.mono ?_
      rintro e w3 ⟨B, d, rfl, hB, hbo, hb3⟩
      have K3 := Lib.hid (Keeps.of_below (bs := []) hb3)
      have HB := Lib.hid hB
      have HBO := Lib.hid hbo
      clear hB hbo hb3 JN
      go_wp2_with fail
      refine (HA.out.sum _ p _ (HA.out.keep HAD.out K3.out (by simp))).mono ?_
      rintro e w4 ⟨rfl, hk4⟩
      have K4 := Lib.hid (K3.out.trans' hk4)
      have HB4 := Lib.hid (HB.out.grow hk4)
      clear hk4
      go_wp2_with fail
      refine (refsum2 B (total l) d _ w4 hfl HB4.out (by omega)).mono ?_
      rintro e w' ⟨rfl, rfl⟩
      have LN := Lib.hid (HA.out.len w4 p _ (HA.out.keep HAD.out K4.out (by simp)) (by omega))
      rw [hfl] at LN
      go_wp2_with fail
      refine LN.out.mono ?_
      rintro e w5 ⟨rfl, hk5⟩
      have K5 := Lib.hid (K4.out.trans' hk5)
      have HB5 := Lib.hid (HB4.out.grow hk5)
      have P5 : Hid (PartsAt (w5.alloc (.cells #[.slice B (total l) d] 28)) (some ⟨w5.heap.size, 0, none⟩) 1 [⟨B, d, flat l⟩]) := by
        have h9 := HB5.out
        rw [← hfl] at h9 ⊢
        exact one_part h9 (by omega)
      have S5 := Lib.hid (HS.out _ _ 1 _ _ P5.out (by decide) (by rw [total_one]; show (flat l).length ≤ 3000; omega))
      rw [show (List.flatMap (fun x : Part => x.bs) [⟨B, d, flat l⟩]) = flat l by simp] at S5
      clear hk5 P5 LN
      go_wp2_with fail
      refine S5.out.mono ?_
      rintro e w6 ⟨rfl, hk6⟩
      have K6 := Lib.hid ((K5.out.alloc _).trans' hk6)
      have HB6 := Lib.hid ((HB5.out.grow ((Keeps.refl [] w5).alloc _)).grow hk6)
      clear hk6 S5
      go_wp2_with fail
      refine (HA.out.sum _ p _ (HA.out.keep HAD.out K6.out (by simp))).mono ?_
      rintro e w7 ⟨rfl, hk7⟩
      have K7 := Lib.hid (K6.out.trans' hk7)
      have HB7 := Lib.hid (HB6.out.grow hk7)
      clear hk7
      have hcp := HW.out.cp
      rcases hcp with ⟨rfl, rfl⟩ | ⟨q, B2, d2, m, rfl, rfl, hq, hqp, hB2, hB2o, hqw⟩
      · go_wp2_with fail
        refine (KN _).out.mono ?_
        rintro e w8 ⟨rfl, hk8⟩
        have K8 := Lib.hid ((HW.out.keeps.trans' K7.out).trans' hk8)
        clear hk8
        go_wp2_with fail
        go_ret
        exact ⟨rfl, K8.out⟩
      · have HQ := Lib.hid (HA.out.keep hq K7.out (by simp))
        have HB2 := Lib.hid (hB2.grow K7.out)
        have hfl2 : (flat (l.take m)).length = total (l.take m) := flat_len _
        have hle2 := total_le (l := l) m
        have hqlt := HA.out.lt hq
        clear hq hB2
        go_wp2_with fail
        refine (HA.out.sum _ q _ HQ.out).mono ?_
        rintro e w8 ⟨rfl, hk8⟩
        have K8 := Lib.hid (K7.out.trans' hk8)
        have HQ8 := Lib.hid (HA.out.keep HQ.out hk8 (by simp))
        have HB28 := Lib.hid (HB2.out.grow hk8)
        have HB8 := Lib.hid (HB7.out.grow hk8)
        clear hk8
        go_wp2_with fail
        refine (refsum2 B2 (total (l.take m)) d2 _ w8 hfl2 HB28.out (by omega)).mono ?_
        rintro e w' ⟨rfl, rfl⟩
        have LN := Lib.hid (HA.out.len w8 q _ HQ8.out (by omega))
        rw [hfl2] at LN
        go_wp2_with fail
        refine LN.out.mono ?_
        rintro e w9 ⟨rfl, hk9⟩
        have K9 := Lib.hid (K8.out.trans' hk9)
        have HQ9 := Lib.hid (HA.out.keep HQ8.out hk9 (by simp))
        have HB9 := Lib.hid (HB8.out.grow hk9)
        clear hk9 LN
        have hz9 := K9.out.size
        have WT := Lib.hid (HA.out.write (w9.alloc (.cells #[.int .u8 7] 5)) q _ (some ⟨w9.heap.size, 0, none⟩) 1 1 [7] (HA.out.keep HQ9.out ((Keeps.refl [] w9).alloc _) (by simp)) (row_at w9 [7] (0, 0) (by decide)) rfl (by decide) (by omega) (fun _ b hb => by have : b = w9.heap.size := (by injection hb with hb; exact hb.symm); omega))
        go_wp2_with fail
        refine WT.out.mono ?_
        rintro e w10 ⟨rfl, _, hk10⟩
        have hk9b : Keeps [q] w9 w10 := ((Keeps.refl [] w9).alloc (.cells #[.int .u8 7] 5)).mono (by simp) |>.trans hk10 (by simp)
        have K10 : Hid (Keeps [q] wr w10) := (K9.out.mono (by simp)).trans hk9b (by simp)
        have HB10 := Lib.hid (HB9.out.keep hk9b (fun b hb => by have := HBO.out b hb; rw [List.mem_singleton]; omega))
        clear hk10 hk9b WT
        go_wp2_with fail
        refine (HA.out.sum _ p _ (HA.out.keep HAD.out K10.out (by rw [List.mem_singleton]; omega))).mono ?_
        rintro e w11 ⟨rfl, hk11⟩
        have HB11 := Lib.hid (HB10.out.grow hk11)
        have K11 := Lib.hid (HW.out.keeps.trans (K10.out.trans hk11 (fun y hy => by simp at hy)) (fun y hy => .inr (by rw [List.mem_singleton] at hy; omega)))
        clear hk11
        go_wp2_with fail
        refine (refsum2 B (total l) d _ w11 hfl HB11.out (by omega)).mono ?_
        rintro e w' ⟨rfl, rfl⟩
        go_wp2_with fail
        refine (KN _).out.mono ?_
        rintro e w12 ⟨rfl, hk12⟩
        have K12 := Lib.hid (K11.out.trans' hk12)
        clear hk12
        go_wp2_with fail
        go_ret
        exact ⟨rfl, K12.out⟩

theorem crcwrites_out (HS0 : SumOk) (HT0 : StepOk) (A : Option Addr) (len c : Nat) (l : List Part) (a : Int) (w : World) (hl : PartsAt w A len l) (hm : len ≤ 9223372036854775807) (hf : fewP l = false) :
    Calls Try.prog 4 #[.slice A len c, .int .i64 a] w fun e w' => e = .returned (.bool true) ∧ Keeps [] w w' := by
  have FW := Lib.hid (few2_is A len c l w hl hm)
  rw [hf] at FW
  have KN := fun W => Lib.hid (known2_any HS0 HT0 W)
  clear HS0 HT0 hl hf
  go_enter Try.func4, Try.ntmps4
  go_wp2_with fail
  refine FW.out.mono ?_
  rintro e w' ⟨rfl, rfl⟩
  go_wp2_with fail
  refine (KN _).out.mono ?_
  rintro e w1 ⟨rfl, hk1⟩
  have K1 := Lib.hid hk1
  clear hk1
  go_wp2_with fail
  go_ret
  exact ⟨rfl, K1.out⟩

theorem crcwrites_any (HS0 : SumOk) (HT0 : StepOk) (Ad : World → Nat → List UInt8 → Prop) (HA0 : AdOk Ad) (A : Option Addr) (len c : Nat) (l : List Part) (a : Int) (w : World) (hl : PartsAt w A len l) (hcc : len ≤ c) (hcm : c ≤ 9223372036854775807) (ha : -9223372036854775808 ≤ a ∧ a ≤ 9223372036854775807) :
    Calls Try.prog 4 #[.slice A len c, .int .i64 a] w fun e w' => e = .returned (.bool true) ∧ Below w.heap.size w w' := by
  cases hf : fewP l with
  | false => exact (crcwrites_out HS0 HT0 A len c l a w hl (by omega) hf).mono fun _ _ ⟨h1, h2⟩ => ⟨h1, h2.below (Nat.le_refl _) (by simp)⟩
  | true => exact (crcwrites_in HS0 HT0 Ad HA0 A len c l a w hl (by omega) hcc hcm hf ha).mono fun _ _ ⟨h1, h2⟩ => ⟨h1, h2.below (Nat.le_refl _) (by simp)⟩

end Go.Proofs.Ytjcfdakcihhblaa
