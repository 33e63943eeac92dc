/- Texts of one proof, laid together: U56. -/
import Derived.Test.YtikfpkeffmbnpaaGreatM41
/- StorePlay, whatever came in. -/
namespace Go.Proofs.YtikfpkeffmbnpaaGreat
open Go.RowKit Go.Shelf Go.Maps
set_option linter.unusedVariables false
set_option linter.unusedSimpArgs false
set_option maxRecDepth 100000

theorem play_out (size : Int) (A : Option Addr) (len c : Nat) (w : World) (h : size < 0 ∨ 40000 < size) :
    Calls Tryz.prog 3 #[.int .i64 size, .slice A len c] w fun e w' => e = .returned (.bool true) ∧ Keeps [] w w' := by
  have HK := Lib.hid (fun X => known4_any X)
  by_cases q1 : size < 0
  · go_enter Tryz.func3, Tryz.ntmps3
    go_wp2_with fail
    refine (HK.out _).mono ?_
    rintro e w1 ⟨rfl, hk⟩
    have HK1 := Lib.hid hk
    clear hk
    go_wp2_with fail
    go_ret
    exact ⟨rfl, HK1.out⟩
  · have q2 : 40000 < size := by omega
    go_enter Tryz.func3, Tryz.ntmps3
    go_wp2_with fail
    refine (HK.out _).mono ?_
    rintro e w1 ⟨rfl, hk⟩
    have HK1 := Lib.hid hk
    clear hk
    go_wp2_with fail
    go_ret
    exact ⟨rfl, HK1.out⟩

set_option maxHeartbeats 1000000 in
theorem play_small (n : Nat) (A : Option Addr) (len c : Nat) (l : List Act4) (w : World) (hn1 : n < 256) (hl : Acts4 w A len l) (hm : len ≤ 9223372036854775807) :
    Calls Tryz.prog 3 #[.int .i64 (n : Int), .slice A len c] w fun e w' => e = .returned (.bool true) ∧ Keeps [] w w' := by
  have HK := Lib.hid (fun X => known4_any X)
  have HF := Lib.hid (few_is A len c l w hl hm)
  clear hl
  have q1 : ¬ (n : Int) < 0 := by omega
  have q2 : ¬ (40000 : Int) < (n : Int) := by omega
  have q3 : (n : Int) < 256 := by omega
  by_cases h0 : n = 0
  · subst h0
    show Calls Tryz.prog 3 #[.int .i64 0, .slice A len c] w fun e w' => e = .returned (.bool true) ∧ Keeps [] w w'
    have HNO := Lib.hid (fun X => new_no 0 X (.inl (by omega)))
    clear q1 q2 q3 hn1
    have HON := Lib.hid (fun X => open_nil (.pointer none) X (size_nil X))
    go_enter Tryz.func3, Tryz.ntmps3
    go_wp2_with fail
    refine HF.out.mono ?_
    rintro e w1 ⟨b, rfl, _, hk1⟩
    have HK1 := Lib.hid hk1
    clear hk1 HF
    cases b
    · go_wp2_with fail
      refine (HK.out _).mono ?_
      rintro e w2 ⟨rfl, hk⟩
      have HK2 := Lib.hid (HK1.out.trans' hk)
      clear hk
      go_wp2_with fail
      go_ret
      exact ⟨rfl, HK2.out⟩
    · go_wp2_with fail
      refine (HNO.out _).mono ?_
      rintro e w' ⟨rfl, rfl⟩
      go_wp2_with fail
      refine (HON.out _).mono ?_
      rintro e w' ⟨rfl, rfl⟩
      go_wp2_with fail
      refine (HK.out _).mono ?_
      rintro e w2 ⟨rfl, hk⟩
      have HK2 := Lib.hid (HK1.out.trans' hk)
      clear hk
      go_wp2_with fail
      go_ret
      exact ⟨rfl, HK2.out⟩
  · go_enter Tryz.func3, Tryz.ntmps3
    go_wp2_with fail
    refine HF.out.mono ?_
    rintro e w1 ⟨b, rfl, _, hk1⟩
    have HK1 := Lib.hid hk1
    clear hk1 HF
    cases b
    · go_wp2_with fail
      refine (HK.out _).mono ?_
      rintro e w2 ⟨rfl, hk⟩
      have HK2 := Lib.hid (HK1.out.trans' hk)
      clear hk
      go_wp2_with fail
      go_ret
      exact ⟨rfl, HK2.out⟩
    · go_wp2_with fail
      refine (new_yes n w1 (by omega) (by omega)).mono ?_
      rintro e w2 ⟨k, rfl, hd, e1, e2, e3, e4, e5, e6, e7, e8⟩
      have HO := Lib.hid (open_small k w2 hd (by rw [e1, List.length_replicate]; exact hn1))
      have HK2 := Lib.hid (HK1.out.trans' e8)
      clear hd e1 e2 e3 e4 e5 e6 e7 e8
      go_wp2_with fail
      refine HO.out.mono ?_
      rintro e w3 ⟨rfl, rfl⟩
      go_wp2_with fail
      refine (HK.out _).mono ?_
      rintro e w4 ⟨rfl, hk⟩
      have HK4 := Lib.hid (HK2.out.trans' hk)
      clear hk
      go_wp2_with fail
      go_ret
      exact ⟨rfl, HK4.out⟩

theorem play_keeps (size : Int) (A : Option Addr) (len c : Nat) (l : List Act4) (w : World) (hl : Acts4 w A len l) (hm : len ≤ 9223372036854775807) :
    Calls Tryz.prog 3 #[.int .i64 size, .slice A len c] w fun e w' => e = .returned (.bool true) ∧ Keeps [] w w' := by
  by_cases h : size < 0 ∨ 40000 < size
  · exact play_out size A len c w h
  · obtain ⟨n, rfl⟩ := Int.eq_ofNat_of_zero_le (show 0 ≤ size by omega)
    by_cases h2 : n < 256
    · exact play_small n A len c l w h2 hl hm
    · exact plays_any n A len c l w (by omega) (by omega) hl hm

theorem storeplay_any (size : Int) (A : Option Addr) (c : Nat) (l : List Act4) (w : World) (hl : Acts4 w A l.length l) (hm : l.length ≤ 9223372036854775807) :
    Calls Tryz.prog 3 #[.int .i64 size, .slice A l.length c] w fun e w' => e = .returned (.bool true) ∧ Below w.heap.size w w' :=
  (play_keeps size A l.length c l w hl hm).mono fun e w' ⟨he, hk⟩ => ⟨he, hk.below (Nat.le_refl _) (by simp)⟩

end Go.Proofs.YtikfpkeffmbnpaaGreat
