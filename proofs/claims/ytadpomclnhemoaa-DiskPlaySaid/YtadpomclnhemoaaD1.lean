/- Small functions of disk: missing, Size, Waits, Steps, within, pickAmong: what each answers. -/
import Derived.Test.YtadpomclnhemoaaProg
import Derived.Test.YtadpomclnhemoaaD0
namespace Go.Proofs.Ytadpomclnhemoaa
open Go.RowKit
set_option linter.unusedVariables false

def inB (a n e : Int) : Bool := decide (0 ≤ a ∧ a ≤ e - n)
theorem inB_of {a n e : Int} (h : 0 ≤ a ∧ a ≤ e - n) : inB a n e = true := by simp [inB, h]
theorem inB_not {a n e : Int} (h : ¬ (0 ≤ a ∧ a ≤ e - n)) : inB a n e = false := by unfold inB; exact decide_eq_false h
theorem ret_bool {a b : Bool} (h : a = b) : Ending.returned (.bool a) = .returned (.bool b) := by rw [h]
theorem ret_int {k : IntKind} {a b : Int} (h : a = b) : Ending.returned (.int k a) = .returned (.int k b) := by rw [h]

theorem within_any (a n e : Int) (w : World) (h0 : 0 ≤ n) (h1 : 0 ≤ e) (h2 : n ≤ 9223372036854775807) (h3 : e ≤ 9223372036854775807) :
    Calls Try.prog 34 #[.int .i64 a, .int .i64 n, .int .i64 e] w fun r w' => r = .returned (.bool (inB a n e)) ∧ w = w' := by
  by_cases ha : 0 ≤ a
  · by_cases hb : a ≤ e - n
    · have H := Lib.hid (inB_of (a := a) (n := n) (e := e) ⟨ha, hb⟩)
      go_enter Try.func34, Try.ntmps34
      go_wp2
      go_ret
      exact ⟨ret_bool H.out.symm, rfl⟩
    · have H := Lib.hid (inB_not (a := a) (n := n) (e := e) (by omega))
      go_enter Try.func34, Try.ntmps34
      go_wp2
      go_ret
      exact ⟨ret_bool H.out.symm, rfl⟩
  · have H := Lib.hid (inB_not (a := a) (n := n) (e := e) (by omega))
    go_enter Try.func34, Try.ntmps34
    go_wp2
    go_ret
    exact ⟨ret_bool H.out.symm, rfl⟩

theorem within_yes (a n e : Int) (w : World) (h0 : 0 ≤ n) (h1 : 0 ≤ e) (h2 : n ≤ 9223372036854775807) (h3 : e ≤ 9223372036854775807) (h4 : 0 ≤ a) (h5 : a ≤ e - n) :
    Calls Try.prog 34 #[.int .i64 a, .int .i64 n, .int .i64 e] w fun r w' => r = .returned (.bool true) ∧ w = w' := by
  rw [← inB_of (a := a) (n := n) (e := e) ⟨h4, h5⟩]
  exact within_any a n e w h0 h1 h2 h3

theorem within_no (a n e : Int) (w : World) (h0 : 0 ≤ n) (h1 : 0 ≤ e) (h2 : n ≤ 9223372036854775807) (h3 : e ≤ 9223372036854775807) (h4 : ¬ (0 ≤ a ∧ a ≤ e - n)) :
    Calls Try.prog 34 #[.int .i64 a, .int .i64 n, .int .i64 e] w fun r w' => r = .returned (.bool false) ∧ w = w' := by
  rw [← inB_not (a := a) (n := n) (e := e) h4]
  exact within_any a n e w h0 h1 h2 h3

theorem missing_nil (w : World) : Calls Try.prog 33 #[.pointer none] w fun e w' => e = .returned (.bool true) ∧ w = w' := by
  go_enter Try.func33, Try.ntmps33
  go_wp2
  go_ret
  exact ⟨rfl, rfl⟩

theorem missing_zero (p : Nat) (w : World) (hc : w.cell? ⟨p, 0, none⟩ = some (.slice none 0 0)) :
    Calls Try.prog 33 #[.pointer (some ⟨p, 0, none⟩)] w fun e w' => e = .returned (.bool true) ∧ w = w' := by
  go_enter Try.func33, Try.ntmps33
  go_wp2
  go_ret
  exact ⟨rfl, rfl⟩

theorem missing_not (p : Nat) (A : Option Addr) (n c : Nat) (w : World) (hc : w.cell? ⟨p, 0, none⟩ = some (.slice A n c)) (hn : 0 < n) (hm : n ≤ 9223372036854775807) :
    Calls Try.prog 33 #[.pointer (some ⟨p, 0, none⟩)] w fun e w' => e = .returned (.bool false) ∧ w = w' := by
  have h0 : ((n : Int) == 0) = false := by simp; omega
  go_enter Try.func33, Try.ntmps33
  go_wp2
  go_ret
  exact ⟨rfl, rfl⟩

theorem size_any (p : Nat) (A : Option Addr) (n c : Nat) (w : World) (hc : w.cell? ⟨p, 0, none⟩ = some (.slice A n c)) (hn : 0 < n) (hm : n ≤ 9223372036854775807) :
    Calls Try.prog 26 #[.pointer (some ⟨p, 0, none⟩)] w fun e w' => e = .returned (.int .i64 n) ∧ w = w' := by
  go_enter Try.func26, Try.ntmps26
  go_wp2_with (go_at_call 33; refine (missing_not p A n c _ hc hn hm).mono ?_; rintro e w' ⟨rfl, rfl⟩)
  go_ret
  exact ⟨rfl, rfl⟩

theorem waits_any (p : Nat) (A : Option Addr) (n c : Nat) (B : Option Addr) (m d : Nat) (w : World) (hc : w.cell? ⟨p, 0, none⟩ = some (.slice A n c)) (hc2 : w.cell? ⟨p, 2, none⟩ = some (.slice B m d)) (hn : 0 < n) (hm : n ≤ 9223372036854775807) :
    Calls Try.prog 22 #[.pointer (some ⟨p, 0, none⟩)] w fun e w' => e = .returned (.int .i64 m) ∧ w = w' := by
  go_enter Try.func22, Try.ntmps22
  go_wp2_with (go_at_call 33; refine (missing_not p A n c _ hc hn hm).mono ?_; rintro e w' ⟨rfl, rfl⟩)
  go_ret
  exact ⟨rfl, rfl⟩

theorem steps_any (p : Nat) (A : Option Addr) (n c : Nat) (m : Int) (w : World) (hc : w.cell? ⟨p, 0, none⟩ = some (.slice A n c)) (hc2 : w.cell? ⟨p, 5, none⟩ = some (.int .i64 m)) (hn : 0 < n) (hm : n ≤ 9223372036854775807) :
    Calls Try.prog 27 #[.pointer (some ⟨p, 0, none⟩)] w fun e w' => e = .returned (.int .i64 m) ∧ w = w' := by
  go_enter Try.func27, Try.ntmps27
  go_wp2_with (go_at_call 33; refine (missing_not p A n c _ hc hn hm).mono ?_; rintro e w' ⟨rfl, rfl⟩)
  go_ret
  exact ⟨rfl, rfl⟩

theorem size_nil (w : World) : Calls Try.prog 26 #[.pointer none] w fun e w' => e = .returned (.int .i64 0) ∧ w = w' := by
  go_enter Try.func26, Try.ntmps26
  go_wp2_with (go_at_call 33; refine (missing_nil _).mono ?_; rintro e w' ⟨rfl, rfl⟩)
  go_ret
  exact ⟨rfl, rfl⟩

theorem waits_nil (w : World) : Calls Try.prog 22 #[.pointer none] w fun e w' => e = .returned (.int .i64 0) ∧ w = w' := by
  go_enter Try.func22, Try.ntmps22
  go_wp2_with (go_at_call 33; refine (missing_nil _).mono ?_; rintro e w' ⟨rfl, rfl⟩)
  go_ret
  exact ⟨rfl, rfl⟩

theorem steps_zero (p : Nat) (w : World) (hc : w.cell? ⟨p, 0, none⟩ = some (.slice none 0 0)) : Calls Try.prog 27 #[.pointer (some ⟨p, 0, none⟩)] w fun e w' => e = .returned (.int .i64 0) ∧ w = w' := by
  go_enter Try.func27, Try.ntmps27
  go_wp2_with (go_at_call 33; refine (missing_zero p _ hc).mono ?_; rintro e w' ⟨rfl, rfl⟩)
  go_ret
  exact ⟨rfl, rfl⟩

/-- What a pick among n things is. -/
def pickOf (k n : Int) : Int := (k.tmod n + n) % n
theorem pickOf_mod (k n : Int) (hn : 0 < n) : pickOf k n = k % n := by
  unfold pickOf
  have h1 : -n < k.tmod n := by
    rcases Int.le_total 0 k with h | h
    · have := Int.tmod_nonneg n h; omega
    · have := Int.neg_tmod k n
      have h3 : 0 ≤ (-k).tmod n := Int.tmod_nonneg n (by omega)
      have h4 : (-k).tmod n < n := Int.tmod_lt_of_pos _ hn
      omega
  have h2 : k.tmod n + n = k - n * (k.tdiv n) + n := by have := Int.mul_tdiv_add_tmod k n; omega
  rw [h2, show k - n * (k.tdiv n) + n = k + n * (1 - k.tdiv n) from by rw [Int.mul_sub]; omega, Int.add_mul_emod_self_left]

theorem pick_any (k n : Int) (w : World) (hk : -9223372036854775808 ≤ k ∧ k ≤ 9223372036854775807) (hn : 0 < n) (hn2 : n ≤ 4611686018427387904) :
    Calls Try.prog 43 #[.int .i64 k, .int .i64 n] w fun e w' => e = .returned (.int .i64 (k % n)) ∧ w = w' := by
  obtain ⟨hk1, hk2⟩ := hk
  have hr := Lib.hid (pickOf_mod k n hn)
  have hb1 : -n < k.tmod n := by
    rcases Int.le_total 0 k with h | h
    · have := Int.tmod_nonneg n h; omega
    · have := Int.neg_tmod k n
      have h3 : 0 ≤ (-k).tmod n := Int.tmod_nonneg n (by omega)
      have h4 : (-k).tmod n < n := Int.tmod_lt_of_pos _ hn
      omega
  have hb2 : k.tmod n < n := Int.tmod_lt_of_pos _ hn
  have hz : (n == 0) = false := by simp; omega
  go_enter Try.func43, Try.ntmps43
  go_wp2
  go_ret
  exact ⟨ret_int hr.out, rfl⟩

end Go.Proofs.Ytadpomclnhemoaa
