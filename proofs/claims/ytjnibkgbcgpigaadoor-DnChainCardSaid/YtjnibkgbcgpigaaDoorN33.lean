
/- dn: what is known of a name with a comma in a value; walked. -/
import Derived.Test.YtjnibkgbcgpigaaDoorN32
import Derived.Test.YtjnibkgbcgpigaaDoorN20
namespace Go.Proofs.YtjnibkgbcgpigaaDoor
open Go.RowKit Go.Shelf
set_option linter.unusedVariables false
set_option linter.unusedSimpArgs false
set_option maxRecDepth 100000

theorem val_ann : valL 7 [65, 110, 110, 92, 44, 32, 66] = some [65, 110, 110, 44, 32, 66] := by
  rw [valL_yes, valL_yes, valL_yes, valL_bs_some (x := 44) (r' := [32, 66]), valL_yes, valL_yes, valL]
  all_goals first | rfl | decide +kernel
theorem val_people : valL 6 [112, 101, 111, 112, 108, 101] = some [112, 101, 111, 112, 108, 101] := by
  rw [valL_yes, valL_yes, valL_yes, valL_yes, valL_yes, valL_yes, valL]
  all_goals first | rfl | decide +kernel
def annD : List Part6 := [([99, 110], [65, 110, 110, 44, 32, 66]), ([111, 117], [112, 101, 111, 112, 108, 101])]
theorem parse_ann : parseL [67, 78, 61, 65, 110, 110, 92, 44, 32, 66, 44, 111, 117, 61, 112, 101, 111, 112, 108, 101] = some annD := by
  unfold parseL
  rw [if_neg (by simp)]
  rw [nameL_more (r1 := [65, 110, 110, 92, 44, 32, 66, 44, 111, 117, 61, 112, 101, 111, 112, 108, 101]) (r2 := [111, 117, 61, 112, 101, 111, 112, 108, 101]) (v := [65, 110, 110, 44, 32, 66]) (by decide +kernel) val_ann (by decide +kernel) (by decide +kernel)]
  rw [nameL_end (r1 := [112, 101, 111, 112, 108, 101]) (v := [112, 101, 111, 112, 108, 101]) (by decide +kernel) val_people (by decide +kernel) (by decide +kernel)]
  decide +kernel
theorem text_ann : dnT annD = [99, 110, 61, 65, 110, 110, 92, 44, 32, 66, 44, 111, 117, 61, 112, 101, 111, 112, 108, 101] := by decide +kernel
theorem ok_ann : nameOk annD = true := by decide +kernel

set_option maxHeartbeats 4000000 in
theorem known6_is (w : World) (hs : SynAt w) : Calls Tryd.prog 11 #[] w fun e w' => e = .returned (.bool true) ∧ Keeps [] w w' := by
  have HP := Lib.hid (parse_is [67, 78, 61, 65, 110, 110, 92, 44, 32, 66, 44, 111, 117, 61, 112, 101, 111, 112, 108, 101] w (by simp) hs)
  clear hs
  go_enter Tryd.func11, Tryd.ntmps11
  go_wp2_with fail
  refine HP.out.mono ?_
  rintro e w1 ⟨hq1, _, hk1⟩
  obtain ⟨A, n, c, rfl, hn, hd⟩ := hq1 annD parse_ann
  have hn2 : 2 = n := hd.1
  subst hn2
  have HT := Lib.hid (text_yes A 2 c annD w1 hd ok_ann)
  rw [text_ann] at HT
  have HK1 := Lib.hid hk1
  have HD := Lib.hid hd
  clear hk1 hq1 hd hn
  go_wp2_with fail
  refine HT.out.mono ?_
  rintro e w2 ⟨rfl, hk2⟩
  obtain ⟨b, o, rfl, hc⟩ := (HD.out.grow hk2).2.2 (by omega)
  obtain ⟨c0, c1⟩ := hc 0 ([99, 110], [65, 110, 110, 44, 32, 66]) rfl
  unfold tv at c0 c1
  simp only [Nat.zero_mul, Nat.add_zero] at c0 c1
  have HK2 := Lib.hid (HK1.out.trans' hk2)
  clear hk2 hc
  go_wp2_with fail
  go_ret
  exact ⟨rfl, HK2.out⟩

end Go.Proofs.YtjnibkgbcgpigaaDoor
