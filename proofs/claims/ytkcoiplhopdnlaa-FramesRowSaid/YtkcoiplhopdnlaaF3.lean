/- frames: the head of a frame, and what it says. -/
import Derived.Test.YtkcoiplhopdnlaaF2
namespace Go.Proofs.Ytkcoiplhopdnlaa
open Go.RowKit
set_option linter.unusedVariables false

theorem ret_bool3 {a b : Bool} (h : a = b) : Ending.returned (.bool a) = .returned (.bool b) := by rw [h]

theorem head_in (A : Option Addr) (n c : Nat) (xs : List UInt8) (w : World) (hn : xs.length = n) (hb : BytesAt w (.slice A n c) xs) (h4 : 4 ≤ n) (hm : n ≤ 9223372036854775807) : Calls Try.prog 39 #[.slice A n c] w fun e w' => e = .returned (.int .u32 (num4 xs : Nat)) ∧ w = w' := by
  go_enter Try.func39, Try.ntmps39
  go_wp2_with fail
  refine (num_head A n c xs w hn hb h4 hm).mono ?_
  rintro e w' ⟨rfl, rfl⟩
  go_wp2_with fail
  go_ret
  exact ⟨rfl, rfl⟩

theorem head_of (A : Option Addr) (n c : Nat) (w : World) (hm : n ≤ 32768) : Calls Try.prog 14 #[.slice A n c] w fun e w' => e = .returned (.int .u32 ((n + 1 : Nat) : Int)) ∧ w = w' := by
  go_enter Try.func14, Try.ntmps14
  go_wp2_with fail
  go_ret
  exact ⟨by go_num, rfl⟩

theorem length_of (h : Nat) (w : World) (h1 : 1 ≤ h) (h2 : h < 4294967296) : Calls Try.prog 29 #[.int .u32 (h : Int)] w fun e w' => e = .returned (.int .i64 ((h - 1 : Nat) : Int)) ∧ w = w' := by
  go_enter Try.func29, Try.ntmps29
  go_wp2_with fail
  go_ret
  exact ⟨by go_num, rfl⟩

theorem frame_size (h : Nat) (w : World) (h1 : 1 ≤ h) (h2 : h < 4294967296) : Calls Try.prog 17 #[.int .u32 (h : Int)] w fun e w' => e = .returned (.int .i64 ((h + 11 : Nat) : Int)) ∧ w = w' := by
  go_enter Try.func17, Try.ntmps17
  go_wp2_with fail
  refine (length_of h w h1 h2).mono ?_
  rintro e w' ⟨rfl, rfl⟩
  go_wp2_with fail
  go_ret
  exact ⟨by go_num, rfl⟩

theorem ones_xor4 {x : Nat} (h : x < 4294967296) : 4294967295 ^^^ x = 4294967295 - x := by
  refine Nat.eq_of_testBit_eq fun i => ?_
  rw [Nat.testBit_xor, show (4294967295 : Nat) = 2 ^ 32 - 1 from rfl, Nat.testBit_two_pow_sub_one, show 2 ^ 32 - 1 - x = 2 ^ 32 - (x + 1) by omega, Nat.testBit_two_pow_sub_succ h]
  by_cases hi : i < 32
  · simp [hi]
  · have : x.testBit i = false := Nat.testBit_lt_two_pow (Nat.lt_of_lt_of_le h (Nat.pow_le_pow_right (show 0 < 2 by decide) (by omega : 32 ≤ i)))
    simp [hi, this]

theorem ones_bits4 {x : Nat} (h : x < 4294967296) : bits .xor .u32 IntKind.u32.max (x : Int) = ((4294967295 - x : Nat) : Int) := by
  have := u32_xor_nat 4294967295 x (by decide) h
  rw [ones_xor4 h] at this
  exact this

theorem turned_of (h : Nat) (w : World) (h2 : h < 4294967296) : Calls Try.prog 25 #[.int .u32 (h : Int)] w fun e w' => e = .returned (.int .u32 ((4294967295 - h : Nat) : Int)) ∧ w = w' := by
  have b0 := ones_bits4 h2
  go_enter Try.func25, Try.ntmps25
  go_wp2_with fail
  go_ret
  exact ⟨by rw [← b0]; rfl, rfl⟩

theorem has_head (A : Option Addr) (n c : Nat) (w : World) (hm : n ≤ 9223372036854775807) : Calls Try.prog 40 #[.slice A n c] w fun e w' => e = .returned (.bool (decide (8 ≤ n))) ∧ w = w' := by
  go_enter Try.func40, Try.ntmps40
  go_wp2_with fail
  go_ret
  exact ⟨ret_bool3 (decide_eq_decide.2 (by omega)), rfl⟩

theorem within_ok (A : Option Addr) (n c : Nat) (xs : List UInt8) (w : World) (hn : xs.length = n) (hb : BytesAt w (.slice A n c) xs) (h4 : 8 ≤ n) (hm : n ≤ 9223372036854775807) : Calls Try.prog 41 #[.slice A n c] w fun e w' => e = .returned (.bool (decide (1 ≤ num4 xs ∧ num4 xs ≤ 32769))) ∧ w = w' := by
  have HI := fun w (hb : BytesAt w (.slice A n c) xs) => head_in A n c xs w hn hb (by omega) hm
  have HB := Lib.hid hb
  have hl := num4_lt xs
  clear hb
  generalize num4 xs = h at *
  by_cases h1 : 1 ≤ h
  · go_enter Try.func41, Try.ntmps41
    go_wp2_with fail
    refine (HI w HB.out).mono ?_
    rintro e w' ⟨rfl, rfl⟩
    go_wp2_with fail
    refine (HI w HB.out).mono ?_
    rintro e w' ⟨rfl, rfl⟩
    go_wp2_with fail
    go_ret
    exact ⟨ret_bool3 (decide_eq_decide.2 (by omega)), rfl⟩
  · go_enter Try.func41, Try.ntmps41
    go_wp2_with fail
    refine (HI w HB.out).mono ?_
    rintro e w' ⟨rfl, rfl⟩
    go_wp2_with fail
    go_ret
    exact ⟨ret_bool3 (by simp), rfl⟩

/-- What stands from a place on. -/
theorem BytesAt.from {w : World} {b o n c : Nat} {xs : List UInt8} (h : BytesAt w (.slice (some ⟨b, o, none⟩) n c) xs) {k : Nat} (hk : k ≤ n) : BytesAt w (.slice (some ⟨b, o + k, none⟩) (n - k) (c - k)) (xs.drop k) := by
  obtain ⟨A', c', he, h1, h2, h3⟩ := h
  injection he with he1 he2 he3
  subst he1 he3
  refine ⟨some ⟨b, o + k, none⟩, c - k, by rw [List.length_drop, he2], by rw [List.length_drop]; omega, by omega, fun hp => ?_⟩
  rw [List.length_drop] at hp
  obtain ⟨b', o', hb, hc⟩ := h3 (by omega)
  injection hb with hb
  injection hb with hb1 hb2
  subst hb1 hb2
  refine ⟨b, o + k, rfl, fun i u hu => ?_⟩
  rw [List.getElem?_drop] at hu
  have := hc (k + i) u hu
  rwa [← Nat.add_assoc] at this

/-- What stands from one place to another. -/
theorem BytesAt.part {w : World} {b o n c : Nat} {xs : List UInt8} (h : BytesAt w (.slice (some ⟨b, o, none⟩) n c) xs) {i m : Nat} (hk : i + m ≤ n) (hn : xs.length = n) : BytesAt w (.slice (some ⟨b, o + i, none⟩) m (c - i)) ((xs.drop i).take m) := by
  obtain ⟨A', c', he, h1, h2, h3⟩ := h
  injection he with he1 he2 he3
  subst he1 he3
  have hl : ((xs.drop i).take m).length = m := by rw [List.length_take, List.length_drop]; omega
  refine ⟨some ⟨b, o + i, none⟩, c - i, by rw [hl], by omega, by omega, fun hp => ?_⟩
  obtain ⟨b', o', hb, hc⟩ := h3 (by omega)
  injection hb with hb
  injection hb with hb1 hb2
  subst hb1 hb2
  refine ⟨b, o + i, rfl, fun j u hu => ?_⟩
  rw [List.getElem?_take] at hu
  split at hu
  · rw [List.getElem?_drop] at hu
    have := hc (i + j) u hu
    rwa [← Nat.add_assoc] at this
  · cases hu

theorem turned_ok (A : Option Addr) (n c : Nat) (xs : List UInt8) (w : World) (hn : xs.length = n) (hb : BytesAt w (.slice A n c) xs) (h4 : 8 ≤ n) (hm : n ≤ 9223372036854775807) (hc : c ≤ 9223372036854775807) : Calls Try.prog 42 #[.slice A n c] w fun e w' => e = .returned (.bool (decide (num4 (xs.drop 4) = 4294967295 - num4 xs))) ∧ w = w' := by
  obtain ⟨b, o, rfl, _⟩ := bytes_addr hb (by omega)
  have hcap : n ≤ c := by
    obtain ⟨A', c', he, h1, _⟩ := hb
    injection he with _ _ he3
    omega
  have HI := fun w (hb : BytesAt w (.slice (some ⟨b, o, none⟩) n c) xs) => head_in (some ⟨b, o, none⟩) n c xs w hn hb (by omega) hm
  have HN := num_head (some ⟨b, o + 4, none⟩) (n - 4) (c - 4) (xs.drop 4) w (by rw [List.length_drop]; omega) (hb.from (by omega)) (by omega) (by omega)
  have HB := Lib.hid hb
  have hl := num4_lt xs
  have hl2 := num4_lt (xs.drop 4)
  clear hb
  generalize num4 xs = h at *
  generalize num4 (xs.drop 4) = h' at *
  go_enter Try.func42, Try.ntmps42
  go_wp2_with fail
  refine HN.mono ?_
  rintro e w' ⟨rfl, rfl⟩
  go_wp2_with fail
  refine (HI w HB.out).mono ?_
  rintro e w' ⟨rfl, rfl⟩
  go_wp2_with fail
  refine (turned_of h w hl).mono ?_
  rintro e w' ⟨rfl, rfl⟩
  go_wp2_with fail
  go_ret
  exact ⟨ret_bool3 (by rw [Bool.eq_iff_iff, beq_iff_eq, decide_eq_true_eq]; omega), rfl⟩

theorem has_all (A : Option Addr) (n c : Nat) (xs : List UInt8) (w : World) (hn : xs.length = n) (hb : BytesAt w (.slice A n c) xs) (h4 : 8 ≤ n) (h1 : 1 ≤ num4 xs) (hm : n ≤ 9223372036854775807) : Calls Try.prog 43 #[.slice A n c] w fun e w' => e = .returned (.bool (decide (num4 xs + 11 ≤ n))) ∧ w = w' := by
  have HI := fun w (hb : BytesAt w (.slice A n c) xs) => head_in A n c xs w hn hb (by omega) hm
  have HB := Lib.hid hb
  have hl := num4_lt xs
  clear hb
  generalize num4 xs = h at *
  go_enter Try.func43, Try.ntmps43
  go_wp2_with fail
  refine (HI w HB.out).mono ?_
  rintro e w' ⟨rfl, rfl⟩
  go_wp2_with fail
  refine (frame_size h w h1 hl).mono ?_
  rintro e w' ⟨rfl, rfl⟩
  go_wp2_with fail
  go_ret
  exact ⟨ret_bool3 (decide_eq_decide.2 (by omega)), rfl⟩

theorem record_in (b o n c : Nat) (xs : List UInt8) (w : World) (hn : xs.length = n) (hb : BytesAt w (.slice (some ⟨b, o, none⟩) n c) xs) (h4 : 8 ≤ n) (h1 : 1 ≤ num4 xs) (h2 : num4 xs + 11 ≤ n) (hc : n ≤ c) (hm : c ≤ 9223372036854775807) : Calls Try.prog 33 #[.slice (some ⟨b, o, none⟩) n c] w fun e w' => e = .returned (.slice (some ⟨b, o + 8, none⟩) (num4 xs - 1) (c - 8)) ∧ w = w' := by
  have HI := fun w (hb : BytesAt w (.slice (some ⟨b, o, none⟩) n c) xs) => head_in (some ⟨b, o, none⟩) n c xs w hn hb (by omega) (by omega)
  have HB := Lib.hid hb
  have hl := num4_lt xs
  clear hb
  generalize num4 xs = h at *
  go_enter Try.func33, Try.ntmps33
  go_wp2_with fail
  refine (HI w HB.out).mono ?_
  rintro e w' ⟨rfl, rfl⟩
  go_wp2_with fail
  refine (length_of h w h1 hl).mono ?_
  rintro e w' ⟨rfl, rfl⟩
  go_wp2_with fail
  go_ret
  exact ⟨congrArg (fun k => Ending.returned (.slice (some ⟨b, o + 8, none⟩) k (c - 8))) (show 8 + (h - 1) - 8 = h - 1 by omega), rfl⟩

end Go.Proofs.Ytkcoiplhopdnlaa
