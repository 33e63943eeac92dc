/- The document's answers for frames: four, word, Frame. -/
import Derived.Test.YtkcoiplhopdnlaaF7
import Derived.BigQuiet
namespace Go.Proofs.Ytkcoiplhopdnlaa
open Go.RowKit
set_option linter.unusedVariables false

theorem rfour (h : Nat) (w : World) (hl : h < 4294967296) : Calls Try.prog 15 #[.int .u32 (h : Int)] w fun e w' => e = .returned (.slice (some ⟨w.heap.size, 0, none⟩) 4 4) ∧ w' = w.alloc (.cells ((four h).map bv).toArray 5) := by
  have e4 := wcs_four hl
  rw [← e4]
  clear e4
  unfold wcs
  go_enter Try.func15, Try.ntmps15
  go_wp2_with fail
  go_ret
  exact ⟨rfl, rfl⟩

theorem rword (A : Option Addr) (n c : Nat) (xs : List UInt8) (w : World) (hn : xs.length = n) (hb : BytesAt w (.slice A n c) xs) (h4 : 4 ≤ n) (hm : n ≤ 9223372036854775807) : Calls Try.prog 34 #[.slice A n c] w fun e w' => e = .returned (.int .u32 (num4 xs : Nat)) ∧ Keeps [] w w' := by
  obtain ⟨b, o, rfl, hc⟩ := bytes_addr hb (by omega)
  have c0 := hc 0 _ (List.getElem?_eq_getElem (by omega))
  have c1 := hc 1 _ (List.getElem?_eq_getElem (by omega))
  have c2 := hc 2 _ (List.getElem?_eq_getElem (by omega))
  have c3 := hc 3 _ (List.getElem?_eq_getElem (by omega))
  have e : num4 xs = (xs[0]'(by omega)).toNat + 256 * (xs[1]'(by omega)).toNat + 65536 * (xs[2]'(by omega)).toNat + 16777216 * (xs[3]'(by omega)).toNat := by
    unfold num4
    rw [List.getElem?_eq_getElem (by omega), List.getElem?_eq_getElem (by omega), List.getElem?_eq_getElem (by omega), List.getElem?_eq_getElem (by omega)]
    rfl
  rw [e]
  have u0 := (xs[0]'(by omega)).toNat_lt
  have u1 := (xs[1]'(by omega)).toNat_lt
  have u2 := (xs[2]'(by omega)).toNat_lt
  have u3 := (xs[3]'(by omega)).toNat_lt
  generalize (xs[0]'(by omega)).toNat = x0 at *
  generalize (xs[1]'(by omega)).toNat = x1 at *
  generalize (xs[2]'(by omega)).toNat = x2 at *
  generalize (xs[3]'(by omega)).toNat = x3 at *
  rw [Nat.add_zero] at c0
  clear hb hc e
  go_enter Try.func34, Try.ntmps34
  go_wp2_with fail
  go_quiet (fail)
  go_wp2_with fail
  go_ret
  exact ⟨by simp, (Keeps.refl [] w).drewN _⟩

/-- What First tells. -/
def firstV (xs : List UInt8) (v : Value) : Value := .tuple #[v, .int .i64 (if framed xs then ((recOf xs).length + 12 : Nat) else (0 : Nat)), .bool (framed xs)]
def firstR (xs : List UInt8) : List UInt8 := if framed xs then recOf xs else []

theorem rfirst_none (A : Option Addr) (n c : Nat) (xs : List UInt8) (w : World) (hn : xs.length = n) (hb : BytesAt w (.slice A n c) xs) (hf : framed xs = false) : Calls Try.prog 22 #[.slice A n c] w fun e w' => e = .returned (.tuple #[.slice none 0 0, .int .i64 0, .bool false]) ∧ Keeps [] w w' := by
  obtain ⟨hnc, hcm, hxx⟩ := cap_of_bytes hb
  clear hxx
  have hl := num4_lt xs
  have hl4 := num4_lt (xs.drop 4)
  have hl7 := num4_lt (xs.drop (7 + num4 xs))
  by_cases h12 : n < 12
  · clear hb hf
    go_enter Try.func22, Try.ntmps22
    go_wp2_with fail
    refine bodyPost_ret (results_tmp3 rfl _ _ _) rfl ?_
    exact ⟨rfl, Keeps.refl _ _⟩
  · have h12' : 12 ≤ n := by omega
    obtain ⟨b, o, rfl, _⟩ := bytes_addr hb (by omega)
    have HB := Lib.hid hb
    have HW := Lib.hid (rword (some ⟨b, o, none⟩) n c xs w hn hb (by omega) (by omega))
    have HW4 := Lib.hid (fun (w : World) (hb : BytesAt w (.slice (some ⟨b, o, none⟩) n c) xs) => rword (some ⟨b, o + 4, none⟩) (n - 4) (c - 4) (xs.drop 4) w (by rw [List.length_drop]; omega) (hb.from (by omega)) (by omega) (by omega))
    have HW7 := Lib.hid (fun (w : World) (hb : BytesAt w (.slice (some ⟨b, o, none⟩) n c) xs) (h : num4 xs + 11 ≤ n) => rword (some ⟨b, o + (7 + num4 xs), none⟩) (n - (7 + num4 xs)) (c - (7 + num4 xs)) (xs.drop (7 + num4 xs)) w (by rw [List.length_drop]; omega) (hb.from (by omega)) (by omega) (by omega))
    have HF := Lib.hid hf
    clear hb hf h12
    generalize hh : num4 xs = hd at *
    generalize hh4 : num4 (xs.drop 4) = h4 at *
    have HH := Lib.hid hh
    have HH4 := Lib.hid hh4
    clear hh hh4
    by_cases h1 : hd < 1
    · go_enter Try.func22, Try.ntmps22
      go_wp2_with fail
      refine HW.out.mono ?_
      rintro e w1 ⟨rfl, hk1⟩
      have HK1 := Lib.hid hk1
      clear hk1
      go_wp2_with fail
      refine bodyPost_ret (results_tmp3 rfl _ _ _) rfl ?_
      exact ⟨rfl, HK1.out⟩
    · have h1' : 1 ≤ hd := by omega
      clear h1
      by_cases h2 : 32769 < hd
      · go_enter Try.func22, Try.ntmps22
        go_wp2_with fail
        refine HW.out.mono ?_
        rintro e w1 ⟨rfl, hk1⟩
        have HK1 := Lib.hid hk1
        clear hk1
        go_wp2_with fail
        refine bodyPost_ret (results_tmp3 rfl _ _ _) rfl ?_
        exact ⟨rfl, HK1.out⟩
      · have h2' : hd ≤ 32769 := by omega
        clear h2
        by_cases ht : h4 = 4294967295 - hd
        · have HT := Lib.hid ht
          have ht' : (h4 : Int) = 4294967295 - (hd : Int) := by omega
          clear ht
          by_cases hle : n < hd + 11
          · go_enter Try.func22, Try.ntmps22
            go_wp2_with fail
            refine HW.out.mono ?_
            rintro e w1 ⟨rfl, hk1⟩
            have HK1 := Lib.hid hk1
            clear hk1
            go_wp2_with fail
            refine (HW4.out w1 (HB.out.grow HK1.out)).mono ?_
            rintro e w2 ⟨rfl, hk2⟩
            have HK2 := Lib.hid (HK1.out.trans' hk2)
            clear hk2
            go_wp2_with fail
            refine bodyPost_ret (results_tmp3 rfl _ _ _) rfl ?_
            exact ⟨rfl, HK2.out⟩
          · have hle' : hd + 11 ≤ n := by omega
            clear hle
            have HW7' := Lib.hid (fun w1 hk => HW7.out w1 (HB.out.grow hk) hle')
            have hrec : ∀ w1, Keeps [] w w1 → BytesAt w1 (.slice (some ⟨b, o + 8, none⟩) (hd - 1) (c - 8)) (recOf xs) := fun w1 hk => by
              have := (HB.out.grow hk).part (i := 8) (m := hd - 1) (by omega) hn
              unfold recOf
              rw [HH.out]
              exact this
            have hrl : (recOf xs).length = hd - 1 := by unfold recOf; rw [HH.out, List.length_take, List.length_drop]; omega
            have HS := Lib.hid (fun w1 hk => refsum2 (some ⟨b, o + 8, none⟩) (hd - 1) (c - 8) (recOf xs) w1 hrl (hrec w1 hk) (by omega))
            have hne : num4 (xs.drop (7 + hd)) ≠ crcSum (recOf xs) := by
              intro he
              have : framed xs = true := framed_iff.2 ⟨by omega, by rw [HH.out]; exact h1', by rw [HH.out]; exact h2', by rw [HH.out, HH4.out]; exact HT.out, by rw [HH.out]; omega, by rw [HH.out]; exact he⟩
              rw [HF.out] at this
              cases this
            clear HW7 hrec hrl
            generalize num4 (xs.drop (7 + hd)) = h7 at *
            have hsl := crcSum_lt (recOf xs)
            generalize crcSum (recOf xs) = s at *
            have hne' : ¬ ((h7 : Int) = (s : Int)) := by omega
            clear hne
            go_enter Try.func22, Try.ntmps22
            go_wp2_with fail
            refine HW.out.mono ?_
            rintro e w1 ⟨rfl, hk1⟩
            have HK1 := Lib.hid hk1
            clear hk1
            go_wp2_with fail
            refine (HW4.out w1 (HB.out.grow HK1.out)).mono ?_
            rintro e w2 ⟨rfl, hk2⟩
            have HK2 := Lib.hid (HK1.out.trans' hk2)
            clear hk2
            go_wp2_with fail
            refine (HW7'.out w2 HK2.out).mono ?_
            rintro e w3 ⟨rfl, hk3⟩
            have HK3 := Lib.hid (HK2.out.trans' hk3)
            clear hk3
            rw [show 7 + hd - 8 = hd - 1 by omega]
            go_wp2_with fail
            refine (HS.out w3 HK3.out).mono ?_
            rintro e w4 ⟨rfl, rfl⟩
            go_wp2_with fail
            refine bodyPost_ret (results_tmp3 rfl _ _ _) rfl ?_
            exact ⟨rfl, HK3.out⟩
        · have ht' : ¬ ((h4 : Int) = 4294967295 - (hd : Int)) := by omega
          clear ht
          go_enter Try.func22, Try.ntmps22
          go_wp2_with fail
          refine HW.out.mono ?_
          rintro e w1 ⟨rfl, hk1⟩
          have HK1 := Lib.hid hk1
          clear hk1
          go_wp2_with fail
          refine (HW4.out w1 (HB.out.grow HK1.out)).mono ?_
          rintro e w2 ⟨rfl, hk2⟩
          have HK2 := Lib.hid (HK1.out.trans' hk2)
          clear hk2
          go_wp2_with fail
          refine bodyPost_ret (results_tmp3 rfl _ _ _) rfl ?_
          exact ⟨rfl, HK2.out⟩

theorem rfirst_some (A : Option Addr) (n c : Nat) (xs : List UInt8) (w : World) (hn : xs.length = n) (hb : BytesAt w (.slice A n c) xs) (hf : framed xs = true) : Calls Try.prog 22 #[.slice A n c] w fun e w' => ∃ B d, e = .returned (.tuple #[.slice B (num4 xs - 1) d, .int .i64 ((num4 xs + 11 : Nat) : Int), .bool true]) ∧ (∀ W, BytesAt W (.slice A n c) xs → BytesAt W (.slice B (num4 xs - 1) d) (recOf xs)) ∧ Keeps [] w w' := by
  obtain ⟨hnc, hcm, hxx⟩ := cap_of_bytes hb
  clear hxx
  have hl := num4_lt xs
  have hl4 := num4_lt (xs.drop 4)
  have hl7 := num4_lt (xs.drop (7 + num4 xs))
  obtain ⟨f1, f2, f3, f4, f5, f6⟩ := framed_iff.1 hf
  rw [hn] at f1 f5
  have h12' : 12 ≤ n := by omega
  obtain ⟨b, o, rfl, _⟩ := bytes_addr hb (by omega)
  have HB := Lib.hid hb
  have HW := Lib.hid (rword (some ⟨b, o, none⟩) n c xs w hn hb (by omega) (by omega))
  have HW4 := Lib.hid (fun (w : World) (hb : BytesAt w (.slice (some ⟨b, o, none⟩) n c) xs) => rword (some ⟨b, o + 4, none⟩) (n - 4) (c - 4) (xs.drop 4) w (by rw [List.length_drop]; omega) (hb.from (by omega)) (by omega) (by omega))
  have HW7 := Lib.hid (fun (w : World) (hb : BytesAt w (.slice (some ⟨b, o, none⟩) n c) xs) => rword (some ⟨b, o + (7 + num4 xs), none⟩) (n - (7 + num4 xs)) (c - (7 + num4 xs)) (xs.drop (7 + num4 xs)) w (by rw [List.length_drop]; omega) (hb.from (by omega)) (by omega) (by omega))
  have hrec : ∀ w1, Keeps [] w w1 → BytesAt w1 (.slice (some ⟨b, o + 8, none⟩) (num4 xs - 1) (c - 8)) (recOf xs) := fun w1 hk => (HB.out.grow hk).part (i := 8) (m := num4 xs - 1) (by omega) hn
  have hrl : (recOf xs).length = num4 xs - 1 := by unfold recOf; rw [List.length_take, List.length_drop]; omega
  have HS := Lib.hid (fun w1 hk => refsum2 (some ⟨b, o + 8, none⟩) (num4 xs - 1) (c - 8) (recOf xs) w1 hrl (hrec w1 hk) (by omega))
  have HR : Hid (∀ W, BytesAt W (.slice (some ⟨b, o, none⟩) n c) xs → BytesAt W (.slice (some ⟨b, o + 8, none⟩) (num4 xs - 1) (c - 8)) (recOf xs)) := fun W h => h.part (i := 8) (m := num4 xs - 1) (by omega) hn
  have hsl := crcSum_lt (recOf xs)
  rw [f6] at hl7
  simp only [f6] at HW7
  simp only [f4] at HW4
  clear hb hf hrec hrl hl4 f6 f4 hl7
  generalize crcSum (recOf xs) = s at *
  generalize num4 xs = hd at *
  go_enter Try.func22, Try.ntmps22
  go_wp2_with fail
  refine HW.out.mono ?_
  rintro e w1 ⟨rfl, hk1⟩
  have HK1 := Lib.hid hk1
  clear hk1
  go_wp2_with fail
  refine (HW4.out w1 (HB.out.grow HK1.out)).mono ?_
  rintro e w2 ⟨rfl, hk2⟩
  have HK2 := Lib.hid (HK1.out.trans' hk2)
  clear hk2
  rw [show ((4294967295 - hd : Nat) : Int) = 4294967295 - (hd : Int) by omega]
  go_wp2_with fail
  refine (HW7.out w2 (HB.out.grow HK2.out)).mono ?_
  rintro e w3 ⟨rfl, hk3⟩
  have HK3 := Lib.hid (HK2.out.trans' hk3)
  clear hk3
  rw [show 7 + hd - 8 = hd - 1 by omega]
  go_wp2_with fail
  refine (HS.out w3 HK3.out).mono ?_
  rintro e w4 ⟨rfl, rfl⟩
  go_wp2_with fail
  refine bodyPost_ret (results_tmp3 rfl _ _ _) rfl ?_
  exact ⟨_, _, rfl, HR.out, HK3.out⟩

end Go.Proofs.Ytkcoiplhopdnlaa
