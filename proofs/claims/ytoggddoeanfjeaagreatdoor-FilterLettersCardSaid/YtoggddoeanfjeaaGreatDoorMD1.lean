/- Texts of one proof, laid together: F48. -/
import Derived.Test.YtoggddoeanfjeaaGreatDoorMC7
import Derived.Test.YtoggddoeanfjeaaGreatDoorMC8
import Derived.Test.YtoggddoeanfjeaaGreatDoorMC0
import Derived.BigQuiet
/- filter: the law FilterLetters; walked. -/
namespace Go.Proofs.YtoggddoeanfjeaaGreatDoor
open Go.RowKit Go.Shelf
set_option linter.unusedVariables false
set_option linter.unusedSimpArgs false
set_option maxRecDepth 100000

theorem nameT_great (s : Txt) : nameT (greatL s) = nameT s := by rw [← nameT_low8, small_greatL, nameT_low8]
theorem valOk_great (s : Txt) : valOk (greatL s) = valOk s := by unfold valOk; rw [greatL_len]
theorem empty_great (s : Txt) : (greatL s).isEmpty = s.isEmpty := by cases s <;> rfl
theorem alone_great (k : Int) (n : Nat) (s v : Txt) : aloneH k n (greatL s) (greatL v) = aloneH k n s v := by
  unfold aloneH
  rw [nameT_great, valOk_great, empty_great, empty_great]
theorem right_great (k : Int) (s v : Txt) : rightF (.mk k [] (greatL s) (greatL v)) = rightF (.mk k [] s v) := by
  unfold rightF
  rw [thrF_in (by omega), thrF_in (by omega), aloneF_is, aloneF_is, alone_great]
theorem meansP_great (own beside : List Att) (k : Int) (hk : 4 ≤ k) (hk5 : k ≤ 5) (s v : Txt) : meansP own beside (.mk k [] (greatL s) (greatL v)) = meansP own beside (.mk k [] s v) := by
  unfold meansP
  rw [right_great]
  have h : meanF own beside (lowF (.mk k [] (greatL s) (greatL v))) = meanF own beside (lowF (.mk k [] s v)) := by
    simp only [lowF, meanF, lowFL, meanFL]
    unfold meanK
    rw [small_greatL, small_greatL]
  rw [h]
set_option maxHeartbeats 8000000 in
theorem filterletters_any (N V : Txt) (A : Option Addr) (n c : Nat) (l : List At7) (w : World) (hN : N.length ≤ 9223372036854775807) (hV : V.length ≤ 9223372036854775807) (h : EntIn w A n l) (hG : SgnAt w) (hs : SynAt w) :
    Calls Tryz.prog 8 #[tv N, tv V, .slice A n c] w fun e w' => e = .returned (.bool true) ∧ Keeps [] w w' := by
  have HKN := Lib.hid (fun X (hX : Keeps [] w X) => known8_is X (hG.keep hX) (hs.keep hX (by simp)))
  have HEN := Lib.hid (entries8_is A n c l w h)
  have HG1 := Lib.hid (fun X => great8_is N X hN)
  have HG2 := Lib.hid (fun X => great8_is V X hV)
  have HM := Lib.hid (fun (hl : LightE8 l) (k : Int) (hk : 4 ≤ k) (hk5 : k ≤ 5) X (hX : Keeps [] w X) => means8_is ⟨A, n, c, none, 0, 0⟩ l [] (.mk k [] N V) ⟨k, none, 0, 0, N, V⟩ X (subOk_plain (h.grow hX) hl) (filAt_plain X k N V (by omega) hN hV))
  have HM2 := Lib.hid (fun (hl : LightE8 l) (k : Int) (hk : 4 ≤ k) (hk5 : k ≤ 5) X (hX : Keeps [] w X) => by
    have h9 := means8_is ⟨A, n, c, none, 0, 0⟩ l [] (.mk k [] (greatL N) (greatL V)) ⟨k, none, 0, 0, greatL N, greatL V⟩ X (subOk_plain (h.grow hX) hl) (filAt_plain X k _ _ (by omega) (by rw [greatL_len]; exact hN) (by rw [greatL_len]; exact hV))
    unfold MnsQ at h9
    rw [meansP_great _ _ k hk hk5] at h9
    exact h9)
  obtain ⟨nl, hnl⟩ : ∃ n, N.length = n := ⟨_, rfl⟩
  obtain ⟨vl, hvl⟩ : ∃ n, V.length = n := ⟨_, rfl⟩
  have hnz : (⟨N.toArray⟩ : ByteArray).size = nl := hnl
  have hvz : (⟨V.toArray⟩ : ByteArray).size = vl := hvl
  generalize greatL N = N2 at HG1 HM2
  generalize greatL V = V2 at HG2 HM2
  rw [hnl] at hN
  rw [hvl] at hV
  unfold MnsQ FH.val tv at *
  dsimp only at *
  clear h hG hs hnl hvl
  by_cases q1 : nl ≤ 300 ∧ vl ≤ 300
  · have q2 : ¬ (300 : Int) < (nl : Int) := by omega
    have q3 : ¬ (300 : Int) < (vl : Int) := by omega
    clear q1
    go_enter Tryz.func8, Tryz.ntmps8
    go_wp2_with fail
    refine HEN.out.mono ?_
    rintro e w1 ⟨r1, rfl, hr1, rfl⟩
    cases r1
    · clear hr1
      go_wp2_with fail
      refine (HKN.out _ (Keeps.refl _ _)).mono ?_
      rintro e w2 ⟨rfl, hk2⟩
      have HK2 := Lib.hid hk2
      clear hk2
      go_wp2_with fail
      go_ret
      exact ⟨rfl, HK2.out⟩
    · have HLI : Hid (LightE8 l) := hr1 rfl
      clear hr1
      go_wp2_with fail
      go_loopw [7] (fun i wr => ∃ k : Int, i = .int .i64 k ∧ 4 ≤ k ∧ k ≤ 6 ∧ Hid (Keeps [] w wr)) (fun i _ => 6 - (intOf i).toNat)
      case atStart => exact ⟨4, rfl, by omega, by omega, Keeps.refl _ _⟩
      case round =>
        obtain ⟨k, rfl, hk4, hk6, HKR⟩ := hrel
        by_cases h5 : k ≤ 5
        · have HMA := Lib.hid (HM.out HLI.out k hk4 h5)
          have HMB := Lib.hid (HM2.out HLI.out k hk4 h5)
          generalize meansP (ents l) (ents []) (.mk k [] N V) = P at HMA HMB
          obtain ⟨b, m⟩ := P
          dsimp only at HMA HMB
          obtain ⟨z, hz⟩ : ∃ z : Int, (m : Int) = z := ⟨_, rfl⟩
          rw [hz] at HMA HMB
          clear hz
          go_wp2_with fail
          refine (HMA.out _ HKR.out).mono ?_
          rintro e w2 ⟨rfl, hk2⟩
          have HK2 := Lib.hid (HKR.out.trans' hk2)
          clear hk2
          go_wp2_with fail
          refine (HG1.out _).mono ?_
          rintro e w3 ⟨rfl, hk3⟩
          have HK3 := Lib.hid (HK2.out.trans' hk3)
          clear hk3
          go_wp2_with fail
          refine (HG2.out _).mono ?_
          rintro e w4 ⟨rfl, hk4'⟩
          have HK4 := Lib.hid (HK3.out.trans' hk4')
          clear hk4'
          go_wp2_with fail
          refine (HMB.out _ HK4.out).mono ?_
          rintro e w5 ⟨rfl, hk5⟩
          have HK5 := Lib.hid (HK4.out.trans' hk5)
          clear hk5
          cases b
          · go_wp2_with fail
            go_roundw
            case rel => exact ⟨k + 1, by go_num, by omega, by omega, HK5.out⟩
            case measure => simp [intOf]; omega
          · go_wp2_with fail
            go_roundw
            case rel => exact ⟨k + 1, by go_num, by omega, by omega, HK5.out⟩
            case measure => simp [intOf]; omega
        · go_wp2_with fail
          refine (HKN.out _ HKR.out).mono ?_
          rintro e w2 ⟨rfl, hk2⟩
          have HK2 := Lib.hid (HKR.out.trans' hk2)
          clear hk2
          go_wp2_with fail
          go_ret
          exact ⟨rfl, HK2.out⟩
  · by_cases q2 : (300 : Int) < (nl : Int)
    · go_enter Tryz.func8, Tryz.ntmps8
      go_wp2_with fail
      refine (HKN.out _ (Keeps.refl _ _)).mono ?_
      rintro e w2 ⟨rfl, hk2⟩
      have HK2 := Lib.hid hk2
      clear hk2
      go_wp2_with fail
      go_ret
      exact ⟨rfl, HK2.out⟩
    · have q3 : (300 : Int) < (vl : Int) := by omega
      go_enter Tryz.func8, Tryz.ntmps8
      go_wp2_with fail
      refine (HKN.out _ (Keeps.refl _ _)).mono ?_
      rintro e w2 ⟨rfl, hk2⟩
      have HK2 := Lib.hid hk2
      clear hk2
      go_wp2_with fail
      go_ret
      exact ⟨rfl, HK2.out⟩
end Go.Proofs.YtoggddoeanfjeaaGreatDoor
