/- DiskCopies: sizes that New refuses, and rows that are too long. -/
import Derived.Test.YtadpomclnhemoaaS20
import Derived.Test.YtadpomclnhemoaaD23
namespace Go.Proofs.Ytadpomclnhemoaa
open Go.RowKit
set_option linter.unusedVariables false

theorem diskcopies_out (size : Int) (A B : Option Addr) (len len2 c c2 : Nat) (l l2 : List ActD) (w : World) (hl : ActsAt w A len l) (hl2 : ActsAt w B len2 l2) (hm : len ≤ 9223372036854775807) (hm2 : len2 ≤ 9223372036854775807) (hf : fewB size l = false) :
    Calls Try.prog 6 #[.int .i64 size, .slice A len c, .slice B len2 c2] w fun e w' => e = .returned (.bool true) ∧ Below w.heap.size w w' := by
  have FW := Lib.hid (few_is size A len c l w hl hm)
  rw [hf] at FW
  clear hl hl2 hf
  go_enter Try.func6, Try.ntmps6
  go_wp2_with fail
  refine FW.out.mono ?_
  rintro e w' ⟨rfl, rfl⟩
  go_wp2_with fail
  refine (known_any _).mono ?_
  rintro e w1 ⟨rfl, hb1⟩
  have HB := Lib.hid hb1
  clear hb1
  go_wp2
  go_ret
  exact ⟨rfl, HB.out⟩

theorem diskcopies_out2 (size : Int) (A B : Option Addr) (len len2 c c2 : Nat) (l l2 : List ActD) (w : World) (hl : ActsAt w A len l) (hl2 : ActsAt w B len2 l2) (hm : len ≤ 9223372036854775807) (hm2 : len2 ≤ 9223372036854775807) (hf : fewB size l = true) (hf2 : fewB size l2 = false) :
    Calls Try.prog 6 #[.int .i64 size, .slice A len c, .slice B len2 c2] w fun e w' => e = .returned (.bool true) ∧ Below w.heap.size w w' := by
  have FW := Lib.hid (few_is size A len c l w hl hm)
  have FV := Lib.hid (few_is size B len2 c2 l2 w hl2 hm2)
  rw [hf] at FW
  rw [hf2] at FV
  clear hl hl2 hf hf2
  go_enter Try.func6, Try.ntmps6
  go_wp2_with fail
  refine FW.out.mono ?_
  rintro e w' ⟨rfl, rfl⟩
  go_wp2_with fail
  refine FV.out.mono ?_
  rintro e w' ⟨rfl, rfl⟩
  go_wp2_with fail
  refine (known_any _).mono ?_
  rintro e w1 ⟨rfl, hb1⟩
  have HB := Lib.hid hb1
  clear hb1
  go_wp2
  go_ret
  exact ⟨rfl, HB.out⟩

theorem diskcopies_many (size : Int) (A B : Option Addr) (len len2 c c2 : Nat) (l l2 : List ActD) (w : World) (hl : ActsAt w A len l) (hl2 : ActsAt w B len2 l2) (hm : len ≤ 40) (hm2 : len2 ≤ 40) (hf : fewB size l = true) (hf2 : fewB size l2 = true) (h40 : 40 < len + len2) :
    Calls Try.prog 6 #[.int .i64 size, .slice A len c, .slice B len2 c2] w fun e w' => e = .returned (.bool true) ∧ Below w.heap.size w w' := by
  have FW := Lib.hid (few_is size A len c l w hl (by omega))
  have FV := Lib.hid (few_is size B len2 c2 l2 w hl2 (by omega))
  rw [hf] at FW
  rw [hf2] at FV
  have h41 : (40 : Int) < (len : Int) + (len2 : Int) := by omega
  clear hl hl2 hf hf2
  go_enter Try.func6, Try.ntmps6
  go_wp2_with fail
  refine FW.out.mono ?_
  rintro e w' ⟨rfl, rfl⟩
  go_wp2_with fail
  refine FV.out.mono ?_
  rintro e w' ⟨rfl, rfl⟩
  go_wp2_with fail
  refine (known_any _).mono ?_
  rintro e w1 ⟨rfl, hb1⟩
  have HB := Lib.hid hb1
  clear hb1
  go_wp2
  go_ret
  exact ⟨rfl, HB.out⟩

theorem diskcopies_small (size : Int) (A B : Option Addr) (len len2 c c2 : Nat) (l l2 : List ActD) (w : World) (hl : ActsAt w A len l) (hl2 : ActsAt w B len2 l2) (h40 : len + len2 ≤ 40) (hf : fewB size l = true) (hf2 : fewB size l2 = true) (hs : size < 1) :
    Calls Try.prog 6 #[.int .i64 size, .slice A len c, .slice B len2 c2] w fun e w' => e = .returned (.bool true) ∧ Below w.heap.size w w' := by
  have FW := Lib.hid (few_is size A len c l w hl (by omega))
  have FV := Lib.hid (few_is size B len2 c2 l2 w hl2 (by omega))
  rw [hf] at FW
  rw [hf2] at FV
  have NW := Lib.hid (new_no size w (.inl hs))
  clear hl hl2 hf hf2 hs
  go_enter Try.func6, Try.ntmps6
  go_wp2_with fail
  refine FW.out.mono ?_
  rintro e w' ⟨rfl, rfl⟩
  go_wp2_with fail
  refine FV.out.mono ?_
  rintro e w' ⟨rfl, rfl⟩
  go_wp2_with fail
  refine NW.out.mono ?_
  rintro e w' ⟨rfl, rfl⟩
  go_wp2_with fail
  refine (known_any _).mono ?_
  rintro e w1 ⟨rfl, hb1⟩
  have HB := Lib.hid hb1
  clear hb1
  go_wp2
  go_ret
  exact ⟨rfl, HB.out⟩

theorem diskcopies_any (size : Int) (A B : Option Addr) (len len2 c c2 : Nat) (l l2 : List ActD) (w : World) (hl : ActsAt w A len l) (hl2 : ActsAt w B len2 l2) (hm : len ≤ 9223372036854775807) (hm2 : len2 ≤ 9223372036854775807) :
    Calls Try.prog 6 #[.int .i64 size, .slice A len c, .slice B len2 c2] w fun e w' => e = .returned (.bool true) ∧ Below w.heap.size w w' := by
  cases hf : fewB size l with
  | false => exact diskcopies_out size A B len len2 c c2 l l2 w hl hl2 hm hm2 hf
  | true =>
    cases hf2 : fewB size l2 with
    | false => exact diskcopies_out2 size A B len len2 c c2 l l2 w hl hl2 hm hm2 hf hf2
    | true =>
      obtain ⟨h1, h2, h3⟩ := fewB_true hf
      obtain ⟨_, h4, h5⟩ := fewB_true hf2
      have e1 := hl.len
      have e2 := hl2.len
      by_cases h40 : 40 < len + len2
      · exact diskcopies_many size A B len len2 c c2 l l2 w hl hl2 (by omega) (by omega) hf hf2 h40
      by_cases hs : size < 1
      · exact diskcopies_small size A B len len2 c c2 l l2 w hl hl2 (by omega) hf hf2 hs
      · obtain ⟨n, rfl⟩ := Int.eq_ofNat_of_zero_le (show 0 ≤ size by omega)
        exact diskcopies_try n A B len len2 c c2 l l2 w (by omega) (by omega) (by omega) hl hl2 h3 h5

end Go.Proofs.Ytadpomclnhemoaa
