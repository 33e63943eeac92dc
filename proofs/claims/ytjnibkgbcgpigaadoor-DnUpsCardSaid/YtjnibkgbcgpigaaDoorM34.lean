/- Texts of one proof, laid together: N53. -/
import Derived.Test.YtjnibkgbcgpigaaDoorM33
import Derived.Test.YtjnibkgbcgpigaaDoorM23
/- dn: names one behind the other, Under; walked. -/
namespace Go.Proofs.YtjnibkgbcgpigaaDoor
open Go.RowKit Go.Shelf
set_option linter.unusedVariables false
set_option linter.unusedSimpArgs false
set_option maxRecDepth 100000

def totN (l : List Nm) : Nat := (l.map (·.n)).sum
def flatN (l : List Nm) : List Part6 := l.flatMap (·.d)
theorem totN_next {l : List Nm} {j : Nat} {m : Nm} (h : l[j]? = some m) : totN (l.take (j + 1)) = totN (l.take j) + m.n ∧ flatN (l.take (j + 1)) = flatN (l.take j) ++ m.d := by
  rw [List.take_add_one, h]
  simp [totN, flatN]
theorem totN_le : ∀ (l : List Nm) (j : Nat), totN (l.take j) ≤ totN l
  | [], j => by simp
  | x :: r, 0 => by simp [totN]
  | x :: r, j + 1 => by
    have h := totN_le r j
    simp only [totN, List.take_succ_cons, List.map_cons, List.sum_cons] at *
    omega
theorem dnCells_app (a b : List Part6) : dnCells (a ++ b) = dnCells a ++ dnCells b := by simp [dnCells]

set_option maxHeartbeats 4000000 in
theorem concat6_is (b k : Nat) (l : List Nm) (w : World) (hk : l.length = k) (hk2 : k ≤ 1000) (h : NmsIn w b l) (ht : totN l ≤ 1000) :
    Calls Tryd.prog 43 #[.slice (some ⟨b, 0, none⟩) k k] w fun e w' => ∃ B d, e = .returned (.slice B (totN l) d) ∧ w'.ownsRow w.heap.size 38 2 (.slice B (totN l) d) (totN l) (dnCells (flatN l)) ∧ Keeps [] w w' := by
  obtain ⟨iu, hiu, hzu0, hzu1, hzu2⟩ := info_parts rdn_info
  have HL := Lib.hid h
  have HN := Lib.hid hk
  have HG := Lib.hid (grow6_is (totN l) w ht)
  have HTT := Lib.hid ht
  clear h hk ht
  go_enter Tryd.func43, Tryd.ntmps43
  go_wp2_with fail
  go_loopw [3, 11] (fun s i wr => ∃ j : Nat, s = .int .i64 (totN (l.take j) : Nat) ∧ i = .int .i64 (j : Int) ∧ j ≤ k ∧ wr = w) (fun _ i _ => k - (intOf i).toNat)
  case atStart => exact ⟨0, rfl, rfl, Nat.zero_le _, rfl⟩
  case round =>
    obtain ⟨j, rfl, rfl, hj, rfl⟩ := hrel
    by_cases hlt : j < k
    · obtain ⟨x, hx⟩ : ∃ x, l[j]? = some x := ⟨_, List.getElem?_eq_getElem (by have := HN.out; omega)⟩
      obtain ⟨c0, hin⟩ := HL.out j x hx
      have hts := (totN_next hx).1
      have hle := totN_le l (j + 1)
      have htt := HTT.out
      obtain ⟨A1, n1, c1, d1⟩ := x
      unfold Nm.val at c0
      dsimp only at c0 hts
      obtain ⟨q, hq⟩ : ∃ q, totN (l.take j) = q := ⟨_, rfl⟩
      rw [hq] at hts ⊢
      have HTS := Lib.hid hts
      have hw64 : wrap64 ((q : Int) + (n1 : Int)) = (q : Int) + (n1 : Int) := by unfold wrap64; omega
      have hne : ¬ ((q : Int) + (n1 : Int)) < 0 := by omega
      clear hin hts hx hq hle htt
      go_wp2_with fail
      go_roundw
      case rel => exact ⟨j + 1, by rw [HTS.out]; congr 1, by go_num, by omega, trivial⟩
      case measure => simp [intOf]; omega
    · obtain rfl : j = k := by omega
      have htk : l.take j = l := List.take_of_length_le (by have := HN.out; omega)
      rw [htk]
      clear htk
      obtain ⟨T, hT⟩ : ∃ T, totN l = T := ⟨_, rfl⟩
      rw [hT] at HG ⊢
      have HT := Lib.hid hT
      clear hT
      go_wp2_with fail
      refine HG.out.mono ?_
      rintro e w1 ⟨GA, gd, rfl, ho, hk1⟩
      have HO := Lib.hid ho
      have HK1 := Lib.hid hk1
      clear ho hk1
      go_wp2_with fail
      obtain ⟨wo, rfl⟩ : ∃ wo : World, wo = wr := ⟨_, rfl⟩
      go_loopw [6, 27] (fun v i wq => ∃ (j2 q : Nat) (VA : Option Addr) (vc : Nat), v = .slice VA q vc ∧ i = .int .i64 (j2 : Int) ∧ j2 ≤ j ∧ Hid (q = totN (l.take j2)) ∧ Hid (wq.ownsRow wo.heap.size 38 2 (.slice VA q vc) q (dnCells (flatN (l.take j2)))) ∧ Hid (Keeps [] wo wq)) (fun _ i _ => j - (intOf i).toNat)
      case atStart => exact ⟨0, 0, GA, gd, rfl, rfl, Nat.zero_le _, rfl, HO.out, HK1.out⟩
      case round =>
        obtain ⟨j2, q, VA, vc, rfl, rfl, hj2, HQ, HOW, HKR⟩ := hrel
        by_cases hlt2 : j2 < j
        · obtain ⟨x, hx⟩ : ∃ x, l[j2]? = some x := ⟨_, List.getElem?_eq_getElem (by have := HN.out; omega)⟩
          obtain ⟨c0, hin⟩ := (HL.out.grow HKR.out) j2 x hx
          obtain ⟨hts, hfs⟩ := totN_next hx
          have hle := totN_le l (j2 + 1)
          have htt := HTT.out
          obtain ⟨A1, n1, c1, d1⟩ := x
          unfold Nm.val at c0
          dsimp only at c0 hts hfs
          rw [← HQ.out] at hts
          have HTS := Lib.hid hts
          have HFS := Lib.hid hfs
          have hbnd : q + n1 ≤ 1000 := by omega
          have SB : Hid (Src wr A1 n1 (dnCells d1)) := hin.2.src
          have HDL : Hid ((dnCells d1).length = n1 * 2) := by show _ = _; rw [dnCells_len, show d1.length = n1 from hin.2.1]
          have hz := HKR.out.size
          clear hin hts hfs hx hle htt
          go_wp2_with (at_builtin; refine wpList_append_opt rfl (.tmp 31) (.tmp 32) 23 rfl wo.heap.size 38 iu _ 2 32 Tryd.underlying23 hiu hzu0 hzu1 hzu2 rfl (by decide) (.slice VA q vc) q (dnCells (flatN (l.take j2))) rfl HOW.out A1 n1 c1 (dnCells d1) rfl HDL.out SB.out (dnCells_one d1) (by unfold maxLen; omega) (by omega) hz ?_; intro v2 w2 ho hg hs; rw [← dnCells_app] at ho; obtain ⟨VB, vd, hv⟩ := own_slice ho; subst hv; have HO2 := Lib.hid ho; have HK2 := Lib.hid (keeps_own8 HOW.out HKR.out hg); clear ho hg hs)
          go_roundw
          case rel => exact ⟨j2 + 1, q + n1, VB, vd, rfl, by go_num, by omega, by show _ = _; rw [HTS.out], by show World.ownsRow _ _ _ _ _ _ _; rw [HFS.out]; exact HO2.out, HK2.out⟩
          case measure => simp [intOf]; omega
        · obtain rfl : j2 = j := by omega
          have htk : l.take j2 = l := List.take_of_length_le (by have := HN.out; omega)
          rw [htk] at HOW HQ
          have hqT : q = T := by rw [HQ.out, HT.out]
          subst hqT
          clear htk
          go_wp2_with fail
          go_ret
          rw [HT.out]
          exact ⟨_, _, rfl, HOW.out, HKR.out⟩

end Go.Proofs.YtjnibkgbcgpigaaDoor
