
/- dn: texts in small letters: the law. -/
import Derived.Test.YtjnibkgbcgpigaaDoorN33
import Derived.Deep.RegionHeld3
namespace Go.Proofs.YtjnibkgbcgpigaaDoor
open Go.RowKit Go.Shelf
set_option linter.unusedVariables false
set_option linter.unusedSimpArgs false
set_option maxRecDepth 100000

set_option maxHeartbeats 2000000 in
theorem dnsmall_any (xs : List UInt8) (w : World) (hx : xs.length ≤ 9223372036854775807) (hs : SynAt w) :
    Calls Tryd.prog 7 #[.string ⟨xs.toArray⟩] w fun e w' => e = .returned (.bool true) ∧ Below w.heap.size w w' := by
  have HKN := Lib.hid (fun X (hk : Keeps [] w X) => known6_is X (hs.keep hk (by simp)))
  clear hs
  rcases Nat.lt_or_ge 1000 xs.length with h1 | h1
  · have h2 : (1000 : Int) < (xs.length : Int) := by omega
    clear h1 hx
    go_enter Tryd.func7, Tryd.ntmps7
    go_wp2_with fail
    refine (HKN.out _ (Keeps.refl _ _)).mono ?_
    rintro e w1 ⟨rfl, hk⟩
    have HK := Lib.hid hk
    clear hk
    go_wp2_with fail
    go_ret
    exact ⟨rfl, HK.out.below (Nat.le_refl _) (by simp)⟩
  have h2 : ¬ (1000 : Int) < (xs.length : Int) := by omega
  have HS1 := Lib.hid (fun X => small_is xs X hx)
  have HS2 := Lib.hid (fun X => rsmall_is xs X hx)
  have HS3 := Lib.hid (fun X => small_is (smallL xs) X (by rw [smallL_len]; exact hx))
  rw [smallL_idem] at HS3
  obtain ⟨ys, hys⟩ : ∃ ys, smallL xs = ys := ⟨_, rfl⟩
  rw [hys] at HS1 HS2 HS3
  clear h1 hx hys
  go_enter Tryd.func7, Tryd.ntmps7
  go_wp2_with fail
  refine (HS1.out _).mono ?_
  rintro e w1 ⟨rfl, hk⟩
  have HK1 := Lib.hid hk
  clear hk
  go_wp2_with fail
  refine (HS2.out _).mono ?_
  rintro e w2 ⟨rfl, hk⟩
  have HK2 := Lib.hid (HK1.out.trans' hk)
  clear hk
  go_wp2_with fail
  refine (HS3.out _).mono ?_
  rintro e w3 ⟨rfl, hk⟩
  have HK3 := Lib.hid (HK2.out.trans' hk)
  clear hk
  go_wp2_with fail
  refine (HKN.out _ HK3.out).mono ?_
  rintro e w4 ⟨rfl, hk⟩
  have HK4 := Lib.hid (HK3.out.trans' hk)
  clear hk
  go_wp2_with fail
  go_ret
  exact ⟨rfl, HK4.out.below (Nat.le_refl _) (by simp)⟩

end Go.Proofs.YtjnibkgbcgpigaaDoor
