/- CrcSums, from what Sum and Step answer. -/
import Derived.Test.YtjcfdakcihhblaaK9
namespace Go.Proofs.Ytjcfdakcihhblaa
open Go.RowKit
set_option linter.unusedVariables false

theorem crcsums_out (HS0 : SumOk) (HT0 : StepOk) (A : Option Addr) (len c : Nat) (l : List Part) (word b : Int) (w : World) (hl : PartsAt w A len l) (hm : len ≤ 9223372036854775807) (hf : fewP l = false) :
    Calls Try.prog 3 #[.slice A len c, .int .u32 word, .int .u8 b] w fun e w' => e = .returned (.bool true) ∧ Keeps [] w w' := by
  have FW := Lib.hid (few2_is A len c l w hl hm)
  rw [hf] at FW
  have KN := fun W => Lib.hid (known2_any HS0 HT0 W)
  clear HS0 HT0 hl hf
  go_enter Try.func3, Try.ntmps3
  go_wp2_with fail
  refine FW.out.mono ?_
  rintro e w' ⟨rfl, rfl⟩
  go_wp2_with fail
  refine (KN _).out.mono ?_
  rintro e w1 ⟨rfl, hk1⟩
  have K1 := Lib.hid hk1
  clear hk1
  go_wp2_with fail
  go_ret
  exact ⟨rfl, K1.out⟩

theorem crcsums_in (HS0 : SumOk) (HT0 : StepOk) (A : Option Addr) (len c : Nat) (l : List Part) (word b : Nat) (w : World) (hl : PartsAt w A len l) (hm : len ≤ 9223372036854775807) (hf : fewP l = true) (hw : word < 4294967296) (hb : b < 256) :
    Calls Try.prog 3 #[.slice A len c, .int .u32 (word : Int), .int .u8 (b : Int)] w fun e w' => e = .returned (.bool true) ∧ Keeps [] w w' := by
  have FW := Lib.hid (few2_is A len c l w hl hm)
  rw [hf] at FW
  obtain ⟨f1, f2, f3⟩ := fewP_true hf
  have h20 : len ≤ 20 := by rw [← hl.len]; exact f1
  have SM := Lib.hid (HS0 A len c l w hl h20 f3)
  have JN := fun W (hk : Keeps [] w W) => Lib.hid (joined2 A len c l W (hl.keep hk) h20 f3)
  have ST := fun W => Lib.hid (HT0 word b W hw hb)
  have KN := fun W => Lib.hid (known2_any HS0 HT0 W)
  have FL := Lib.hid (flat_len l)
  clear HS0 HT0 hl hf f1 f2
  go_enter Try.func3, Try.ntmps3
  go_wp2_with fail
  refine FW.out.mono ?_
  rintro e w' ⟨rfl, rfl⟩
  go_wp2_with fail
  refine SM.out.mono ?_
  rintro e w1 ⟨rfl, hk1⟩
  have K1 := Lib.hid hk1
  clear hk1 SM
  go_wp2_with fail
  refine (JN _ K1.out).out.mono ?_
  rintro e w2 ⟨B, d, rfl, hB, _, hb2⟩
  have K2 := Lib.hid (K1.out.trans' (Keeps.of_below hb2))
  have HB := Lib.hid hB
  clear hb2 hB JN
  go_wp2_with fail
  refine (refsum2 B (total l) d _ w2 FL.out HB.out (by omega)).mono ?_
  rintro e w' ⟨rfl, rfl⟩
  go_wp2_with fail
  refine (ST _).out.mono ?_
  rintro e w3 ⟨rfl, hk3⟩
  have K3 := Lib.hid (K2.out.trans' hk3)
  clear hk3
  go_wp2_with fail
  refine (refstep2 word b _ hw hb).mono ?_
  rintro e w' ⟨rfl, rfl⟩
  go_wp2_with fail
  refine (KN _).out.mono ?_
  rintro e w4 ⟨rfl, hk4⟩
  have K4 := Lib.hid (K3.out.trans' hk4)
  clear hk4
  go_wp2_with fail
  go_ret
  exact ⟨rfl, K4.out⟩

theorem crcsums_any (HS0 : SumOk) (HT0 : StepOk) (A : Option Addr) (len c : Nat) (l : List Part) (word b : Nat) (w : World) (hl : PartsAt w A len l) (hm : len ≤ 9223372036854775807) (hw : word < 4294967296) (hb : b < 256) :
    Calls Try.prog 3 #[.slice A len c, .int .u32 (word : Int), .int .u8 (b : Int)] w fun e w' => e = .returned (.bool true) ∧ Below w.heap.size w w' := by
  cases hf : fewP l with
  | false => exact (crcsums_out HS0 HT0 A len c l word b w hl hm hf).mono fun _ _ ⟨h1, h2⟩ => ⟨h1, h2.below (Nat.le_refl _) (by simp)⟩
  | true => exact (crcsums_in HS0 HT0 A len c l word b w hl hm hf hw hb).mono fun _ _ ⟨h1, h2⟩ => ⟨h1, h2.below (Nat.le_refl _) (by simp)⟩

end Go.Proofs.Ytjcfdakcihhblaa
