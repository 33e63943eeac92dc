/- FramesParse: of any bytes the frames. -/
import Derived.Test.YtaifchikjnnppaaQ5
namespace Go.Proofs.Ytaifchikjnnppaa
open Go.RowKit
set_option linter.unusedVariables false

theorem parse_row (A : Option Addr) (n c : Nat) (xs : List UInt8) (w : World) (hb : BytesAt w (.slice A n c) xs) (hn : xs.length = n) (hm : n ≤ 9223372036854775807) : Calls Try.prog 3 #[.slice A n c] w fun e w' => e = .returned (.bool true) ∧ Below w.heap.size w w' := by
  have h : Calls Try.prog 3 #[.slice A n c] w fun e w' => e = .returned (.bool true) ∧ Keeps [] w w' := by
    by_cases h3 : 3000 < n
    · clear hb hn
      go_enter Try.func3, Try.ntmps3
      go_wp2_with fail
      refine (known3_any w).mono ?_
      rintro e w1 ⟨rfl, hk1⟩
      have HK1 := Lib.hid hk1
      clear hk1
      go_wp2_with fail
      go_ret
      exact ⟨rfl, HK1.out⟩
    · have h3' : n ≤ 3000 := by omega
      have HA := Lib.hid (asks_is A n c xs w hn hb (by omega))
      clear h3 hb hn
      go_enter Try.func3, Try.ntmps3
      go_wp2_with fail
      refine HA.out.mono ?_
      rintro e w1 ⟨rfl, hk1⟩
      have HK1 := Lib.hid hk1
      clear hk1
      go_wp2_with fail
      refine (known3_any w1).mono ?_
      rintro e w2 ⟨rfl, hk2⟩
      have HK2 := Lib.hid (HK1.out.trans' hk2)
      clear hk2
      go_wp2_with fail
      go_ret
      exact ⟨rfl, HK2.out⟩
  exact h.mono fun e w' ⟨h1, h2⟩ => ⟨h1, h2.below (Nat.le_refl _) (by simp)⟩

end Go.Proofs.Ytaifchikjnnppaa
