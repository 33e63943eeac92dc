/- The document's Sum. -/
import Derived.Test.YtkcoiplhopdnlaaK4
import Derived.Test.YtkcoiplhopdnlaaG1
namespace Go.Proofs.Ytkcoiplhopdnlaa
open Go.RowKit
set_option linter.unusedVariables false

theorem refsum2 (A : Option Addr) (n c : Nat) (xs : List UInt8) (w : World) (hn : xs.length = n) (hb : BytesAt w (.slice A n c) xs) (hm : n ≤ 9223372036854775807) : Calls Try.prog 16 #[.slice A n c] w fun e w' => e = .returned (.int .u32 (crcSum xs : Nat)) ∧ w = w' := by
  have HB := Lib.hid hb
  have HN := Lib.hid hn
  clear hb hn
  go_enter Try.func16, Try.ntmps16
  go_wp2
  go_loopw [3, 4] (fun v i wr => ∃ j x : Nat, i = .int .i64 (j : Int) ∧ j ≤ n ∧ v = .int .u32 (x : Int) ∧ x < 4294967296 ∧ Hid (x = crcRun 4294967295 (xs.take j)) ∧ wr = w) (fun _ i _ => n - (intOf i).toNat)
  case atStart => exact ⟨0, 4294967295, rfl, Nat.zero_le _, rfl, by decide, by show _ = _; rfl, rfl⟩
  case round =>
    obtain ⟨j, x, rfl, hj, rfl, hx, HX, rfl⟩ := hrel
    by_cases hlt : j < n
    · have hnx := HN.out
      have hu : xs[j]? = some (xs[j]'(by omega)) := List.getElem?_eq_getElem _
      obtain ⟨b, o, rfl, hc⟩ := bytes_addr HB.out (by omega)
      have c0 := hc j _ hu
      have hs : xs.take (j + 1) = xs.take j ++ [xs[j]'(by omega)] := List.take_succ_eq_append_getElem (by omega)
      generalize xs[j]'(by omega) = u at *
      have hu8 : u.toNat < 256 := u.toNat_lt
      have HS : Hid (crcStep x u.toNat = crcRun 4294967295 (xs.take (j + 1))) := by
        show _ = _
        rw [hs, crcRun_snoc, ← HX.out]
      clear hc hu hs HB
      go_wp2_with fail
      refine (refstep2 x u.toNat wr hx hu8).mono ?_
      rintro e w' ⟨rfl, rfl⟩
      have hz := crcStep_lt hx hu8
      go_wp2_with fail
      go_roundw
      case rel => exact ⟨j + 1, crcStep x u.toNat, by go_num, by omega, rfl, hz, HS, trivial⟩
      case measure => simp [intOf]; omega
    · have hz : x = crcRun 4294967295 xs := by
        rw [HX.out, List.take_of_length_le (by have := HN.out; omega)]
      have hq : ((crcSum xs : Nat) : Int) = 4294967295 - (x : Int) := by
        unfold crcSum
        omega
      have HQ := Lib.hid hq
      clear hq hz
      go_wp2_with fail
      go_ret
      exact ⟨by rw [HQ.out]; rfl, rfl⟩

end Go.Proofs.Ytkcoiplhopdnlaa
