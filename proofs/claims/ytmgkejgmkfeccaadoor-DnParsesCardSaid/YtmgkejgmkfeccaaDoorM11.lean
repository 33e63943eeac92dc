/- Texts of one proof, laid together: N20. -/
import Derived.Test.YtmgkejgmkfeccaaDoorM10
import Derived.Deep.RegionHeld3
import Derived.Deep.RegionHeldLaw
/- dn: Text, Key; walked. -/
namespace Go.Proofs.YtmgkejgmkfeccaaDoor
open Go.RowKit Go.Shelf
set_option linter.unusedVariables false
set_option linter.unusedSimpArgs false
set_option maxRecDepth 100000

set_option maxHeartbeats 4000000 in
theorem text_no (A : Option Addr) (n c : Nat) (d : List Part6) (w : World) (hn : n ≤ 4611686018427387904) (h : DnIn w A n d) (hf : nameOk d = false) :
    Calls Tryd.prog 17 #[.slice A n c] w fun e w' => e = .returned (.tuple #[.string ⟨#[]⟩, .int .i64 2]) ∧ Keeps [] w w' := by
  have HM := Lib.hid (maybe6_is w.heap.size 1 [⟨A, n, c, d⟩] _ rfl (by decide) (one_name w A n c d 24 hn h))
  simp only [List.all_cons, List.all_nil, Bool.and_true, hf] at HM
  clear h hn hf
  have HK0 : Hid (Keeps [] w (w.alloc (.cells #[.slice A n c] 24))) := (Keeps.refl [] w).alloc _
  go_enter Tryd.func17, Tryd.ntmps17
  go_wp2_with fail
  refine HM.out.mono ?_
  rintro e w1 ⟨rfl, hk1⟩
  have HK1 := Lib.hid (HK0.out.trans' hk1)
  clear hk1
  go_wp2_with fail
  go_ret2
  exact ⟨rfl, HK1.out⟩

set_option maxHeartbeats 8000000 in
theorem text_yes (A : Option Addr) (n c : Nat) (d : List Part6) (w : World) (h : DnIn w A n d) (hf : nameOk d = true) :
    Calls Tryd.prog 17 #[.slice A n c] w fun e w' => e = .returned (.tuple #[.string ⟨(dnT d).toArray⟩, .int .i64 0]) ∧ Keeps [] w w' := by
  have hlen := dnT_len hf
  have hok := hf
  unfold nameOk at hok
  simp only [Bool.and_eq_true, decide_eq_true_eq, List.all_eq_true] at hok
  obtain ⟨hn16', hok⟩ := hok
  rw [h.1] at hn16'
  have HOK := Lib.hid hok
  have HLEN := Lib.hid hlen
  have HM := Lib.hid (maybe6_is w.heap.size 1 [⟨A, n, c, d⟩] _ rfl (by decide) (one_name w A n c d 24 (by omega) h))
  simp only [List.all_cons, List.all_nil, Bool.and_true, hf] at HM
  have HD := Lib.hid h
  obtain ⟨iu, hiu, hzu0, hzu1, hzu2⟩ := info_parts str_info
  clear h hf hok hlen
  have HK0 : Hid (Keeps [] w (w.alloc (.cells #[.slice A n c] 24))) := (Keeps.refl [] w).alloc _
  go_enter Tryd.func17, Tryd.ntmps17
  go_wp2_with fail
  refine HM.out.mono ?_
  rintro e w1 ⟨rfl, hk1⟩
  have HK1 := Lib.hid (HK0.out.trans' hk1)
  clear hk1
  go_wp2_with fail
  refine (allmarks_is _).mono ?_
  rintro e w2 ⟨bm, rfl, hbm, hmk, hk2⟩
  have HK2 := Lib.hid (HK1.out.trans' hk2)
  have HMK := Lib.hid hmk
  clear hk2 hmk hbm
  go_wp2_with fail
  go_loopw [4, 15] (fun o i wr => ∃ (j : Nat) (B : Option Addr) (cc : Nat), o = .slice B j cc ∧ i = .int .i64 (j : Int) ∧ j ≤ n ∧ Hid (wr.ownsRow w2.heap.size 9 1 (.slice B j cc) j (((d.take j).map partT).map tv)) ∧ Hid (Keeps [] w2 wr)) (fun _ i _ => n - (intOf i).toNat)
  case atStart => exact ⟨0, none, 0, rfl, rfl, Nat.zero_le _, World.ownsRow_nil _ _ _ _, Keeps.refl _ _⟩
  case round =>
    obtain ⟨j, B, cc, rfl, rfl, hj, HOW, HKR⟩ := hrel
    by_cases hlt : j < n
    · obtain ⟨hl, hp, hc9⟩ := HD.out.grow (HK2.out.trans' HKR.out)
      obtain ⟨b, o, hA9, hcc⟩ := hc9 (by omega)
      clear hc9
      subst hA9
      obtain ⟨p, hu⟩ : ∃ p, d[j]? = some p := ⟨_, List.getElem?_eq_getElem (by omega)⟩
      obtain ⟨c0, c1⟩ := hcc j p hu
      have hpk := HOK.out p (List.mem_of_getElem? hu)
      have hpl := partOk_len hpk
      have HT : Hid (((d.take (j + 1)).map partT).map tv = ((d.take j).map partT).map tv ++ [tv (partT p)]) := by
        show _ = _
        rw [List.take_add_one, hu]
        simp
      have htxl := text_len6 p.2.length p.2 0
      have HPT : Hid (partT p = p.1 ++ [61] ++ text6 p.2.length 0 p.2) := rfl
      obtain ⟨pt, hpt⟩ : ∃ pt, partT p = pt := ⟨_, rfl⟩
      rw [hpt] at HT HPT
      obtain ⟨s, v⟩ := p
      dsimp only at c0 c1 hpl htxl HPT
      have HVT := Lib.hid (fun X (hm : MarksAt X bm) => valuetext_is bm v X (by omega) hm)
      obtain ⟨tx, htx⟩ : ∃ tx, text6 v.length 0 v = tx := ⟨_, rfl⟩
      rw [htx] at HVT htxl HPT
      obtain ⟨q1, hq1⟩ : ∃ q1, s ++ [61] = q1 := ⟨_, rfl⟩
      have hq1l : q1.length = s.length + 1 := by rw [← hq1]; simp
      have hca : ∀ W, (Op.stringOp .add ⟨s.toArray⟩ ⟨#[61]⟩).run Tryd.prog W = .ok (.string ⟨q1.toArray⟩) W := fun W => by
        rw [← hq1]; exact cat_is s [61] (by simp; omega) W
      have hcb : ∀ W, (Op.stringOp .add ⟨q1.toArray⟩ ⟨tx.toArray⟩).run Tryd.prog W = .ok (.string ⟨pt.toArray⟩) W := fun W => by
        rw [HPT.out, hq1]; exact cat_is q1 tx (by omega) W
      unfold tv at c0 c1
      clear hcc hu hpt hpk hp hl htx hq1 HPT
      have hk7 : Keeps [] wr (wr.alloc (.cells #[.string ⟨s.toArray⟩, .string ⟨v.toArray⟩] 53)) := (Keeps.refl [] wr).alloc _
      have hr7 : (wr.alloc (.cells #[.string ⟨s.toArray⟩, .string ⟨v.toArray⟩] 53)).heap[wr.heap.size]? = some (.cells #[.string ⟨s.toArray⟩, .string ⟨v.toArray⟩] 53 (0, 0)) := heap_new8 wr _
      obtain ⟨W7, hW7⟩ : ∃ W7, wr.alloc (.cells #[.string ⟨s.toArray⟩, .string ⟨v.toArray⟩] 53) = W7 := ⟨_, rfl⟩
      have HF : Hid (∀ X, Keeps [] W7 X → X.cell? ⟨wr.heap.size, 0, none⟩ = some (.string ⟨s.toArray⟩) ∧ X.cell? ⟨wr.heap.size, 1, none⟩ = some (.string ⟨v.toArray⟩)) := fun X hk => by
        rw [hW7] at hr7
        exact two_facts6 (blk_keep hr7 hk (by simp))
      rw [hW7] at hk7
      have HK7 := Lib.hid hk7
      have HKR7 := Lib.hid (HKR.out.trans' hk7)
      have HNB : Hid (wr.heap.size ∉ (Value.slice B j cc).ownBlock.toList) := fun hm => by
        have h9 : (Value.slice B j cc).ownBlock = some wr.heap.size := by simpa using hm
        exact Nat.lt_irrefl _ (HOW.out.lt _ h9).2
      have HR7 := Lib.hid (hW7 ▸ hr7)
      have HKM : Hid (MarksAt W7 bm) := HMK.out.grow HKR7.out
      have HO7 : Hid (W7.ownsRow w2.heap.size 9 1 (.slice B j cc) j (((d.take j).map partT).map tv)) := own_keep HOW.out hk7 (by simp)
      have hsz7 := HKR7.out.size
      have HW7 := Lib.hid hW7
      clear hk7 hr7 hW7
      go_wp2_with fail
      rw [HW7.out]
      go_region_held_law (fun w' => w'.cell? ⟨wr.heap.size, 0, none⟩ = some (.string ⟨s.toArray⟩) ∧ w'.cell? ⟨wr.heap.size, 1, none⟩ = some (.string ⟨v.toArray⟩)) (first | exact y6 | exact HF.out _ (Keeps.refl _ _) | exact HF.out _ (by repeat (first | exact Keeps.refl [] _ | exact K4.out | refine Keeps.alloc ?_ _ | refine Keeps.drew ?_)))
        (first
        | (go_at_call 36; refine (HVT.out _ (HKM.out.grow (by repeat (first | exact Keeps.refl [] _ | refine Keeps.drew ?_)))).mono ?_; rintro e w4 ⟨rfl, hk4'⟩; have K4 : Hid (Keeps [] W7 w4) := Keeps.trans' (by repeat (first | exact Keeps.refl [] _ | refine Keeps.drew ?_)) hk4'; clear hk4')
        | (refine step_append_opt rfl (.tmp 19) (.tmp 28) 34 rfl w2.heap.size 9 iu _ 1 16 Tryd.underlying34 hiu hzu0 hzu1 hzu2 rfl (by decide) (.slice B j cc) j (((d.take j).map partT).map tv) rfl (own_keep HO7.out (K4.out.alloc _) (by simp)) (some ⟨w4.heap.size, 0, none⟩) 1 1 [.string ⟨pt.toArray⟩] rfl rfl (src_one6 _ _ _) (by simp [Value.oneCell']) (by unfold maxLen; omega) (by omega) (by have := K4.out.size; simp; omega) ?_; intro v6 w6 ho6 hg6 hs6; obtain ⟨VB, vd, hv⟩ := own_slice ho6; subst hv; have HO6 := Lib.hid ho6; have HK6 := Lib.hid (keeps_own8 (own_keep HO7.out (K4.out.alloc (.cells #[.string ⟨pt.toArray⟩] 9)) (by simp)) (HKR7.out.trans' (K4.out.alloc (.cells #[.string ⟨pt.toArray⟩] 9))) hg6); have y6 := two_facts6 (blk_keep (blk_keep HR7.out (K4.out.alloc (.cells #[.string ⟨pt.toArray⟩] 9)) (by simp)) (Keeps.of_grown (bs := (Value.slice B j cc).ownBlock.toList) hg6 (fun x hx => .inl (by rw [hx]; simp))) HNB.out); clear ho6 hg6 hs6))
      all_goals
        go_wp2_with fail
        go_roundw
        case rel => exact ⟨j + 1, VB, vd, rfl, by go_num, by omega, by show World.ownsRow _ _ _ _ _ _ _; rw [HT.out]; exact HO6.out, HK6.out⟩
        case measure => simp [intOf]; omega
    · obtain rfl : j = n := by omega
      have HL : Hid (d.length = j) := HD.out.1
      have HJ : Hid (Calls Tryd.prog 37 #[.slice B j cc, .string ⟨#[44]⟩] wr fun e w' => e = .returned (.string ⟨(dnT d).toArray⟩) ∧ Keeps [] wr w') := by
        have hj1 : (d.map partT).length = j := by rw [List.length_map]; exact HL.out
        have h9 := HOW.out
        rw [List.take_of_length_le (by rw [HL.out]; exact Nat.le_refl _)] at h9
        have := join_own w2.heap.size B cc (d.map partT) wr (by rw [hj1]; exact h9) (by have := HLEN.out; unfold dnT at this; omega) (by rw [hj1]; exact hn16')
        rw [hj1] at this
        exact this
      clear hn16'
      go_wp2_with fail
      refine HJ.out.mono ?_
      rintro e w5 ⟨rfl, hk5⟩
      have HK5 := Lib.hid ((HK2.out.trans' HKR.out).trans' hk5)
      clear hk5
      go_wp2_with fail
      go_ret2
      exact ⟨rfl, HK5.out⟩

end Go.Proofs.YtmgkejgmkfeccaaDoor
