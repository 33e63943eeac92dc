/- Texts of one proof, laid together: F65. -/
import Derived.Test.YtoggddoeanfjeaaGreatDoorMDD
import Derived.Test.YtoggddoeanfjeaaGreatDoorMC7
import Derived.BigQuiet
/- filter: the law FilterSame; walked. -/
namespace Go.Proofs.YtoggddoeanfjeaaGreatDoor
open Go.RowKit Go.Shelf
set_option linter.unusedVariables false
set_option linter.unusedSimpArgs false
set_option maxRecDepth 100000

theorem beq_swap {α : Type} [BEq α] [LawfulBEq α] (a b : α) : (a == b) = (b == a) := by
  rw [Bool.eq_iff_iff, beq_iff_eq, beq_iff_eq]
  exact ⟨Eq.symm, Eq.symm⟩
theorem likeH_comm (k k' : Int) (s s' v v' : Txt) (n n' : Nat) : likeH k k' s s' v v' n n' = likeH k' k s' s v' v n' n := by
  unfold likeH
  rw [beq_swap k k', beq_swap (smallL s), beq_swap v, beq_swap n]
theorem sameFL_comm : ∀ (l l' : List FV), (∀ t ∈ l, ∀ u, sameF t u = sameF u t) → sameFL l l' = sameFL l' l
  | [], [], _ => rfl
  | [], _ :: _, _ => by simp [sameFL]
  | _ :: _, [], _ => by simp [sameFL]
  | x :: r, y :: q, h => by
    simp only [sameFL]
    rw [h x (List.mem_cons_self ..) y, sameFL_comm r q (fun t ht => h t (List.mem_cons_of_mem _ ht))]
theorem sameF_comm : ∀ (t u : FV), sameF t u = sameF u t := by
  intro t
  induction t using FV.ind with
  | h k l s v ih =>
    intro u
    obtain ⟨k', l', s', v'⟩ := u
    rw [sameF, sameF, likeH_comm, sameFL_comm l l' ih]
theorem sameFL_refl : ∀ (l : List FV), (∀ t ∈ l, sameF t t = true) → sameFL l l = true
  | [], _ => by simp [sameFL]
  | x :: r, h => by
    simp only [sameFL]
    rw [h x (List.mem_cons_self ..), sameFL_refl r (fun t ht => h t (List.mem_cons_of_mem _ ht))]
    rfl
theorem sameF_refl : ∀ (t : FV), sameF t t = true := by
  intro t
  induction t using FV.ind with
  | h k l s v ih =>
    rw [sameF, sameFL_refl l ih]
    unfold likeH
    simp
set_option maxHeartbeats 8000000 in
theorem filtersame_any (ta tb : FV) (ha hb : FH) (w : World) (hA : FilAt w ta ha) (hB : FilAt w tb hb) (hG : SgnAt w) (hs : SynAt w) :
    Calls Tryz.prog 6 #[ha.val, hb.val] w fun e w' => e = .returned (.bool true) ∧ Keeps [] w w' := by
  have HKN := Lib.hid (fun X (hX : Keeps [] w X) => known8_is X (hG.keep hX) (hs.keep hX (by simp)))
  have HLA := Lib.hid (fun X (hX : Keeps [] w X) => light8_law ta ha X (FilAt.grow hX ta ha hA))
  have HLB := Lib.hid (fun X (hX : Keeps [] w X) => light8_law tb hb X (FilAt.grow hX tb hb hB))
  have HRS := Lib.hid (fun X (hX : Keeps [] w X) => rsame8_is ta tb ha hb X (FilAt.grow hX ta ha hA) (FilAt.grow hX tb hb hB))
  have HAB := Lib.hid (fun (hn : szF ta ≤ 50000) X (hX : Keeps [] w X) => fsame_is ta tb ha hb X (FilAt.grow hX ta ha hA) (FilAt.grow hX tb hb hB) hn)
  have HBA := Lib.hid (fun (hn : szF tb ≤ 50000) X (hX : Keeps [] w X) => fsame_is tb ta hb ha X (FilAt.grow hX tb hb hB) (FilAt.grow hX ta ha hA) hn)
  have HAA := Lib.hid (fun (hn : szF ta ≤ 50000) X (hX : Keeps [] w X) => fsame_is ta ta ha ha X (FilAt.grow hX ta ha hA) (FilAt.grow hX ta ha hA) hn)
  have HSA : Hid (decide (0 ≤ leftV 1 4000 ta) = true → szF ta ≤ 50000) := fun h => by
    have h1 := leftV_sz ta 1 4000 (by decide) (by simpa using h)
    have h2 : 0 ≤ leftV 1 4000 ta := by simpa using h
    omega
  have HSB : Hid (decide (0 ≤ leftV 1 4000 tb) = true → szF tb ≤ 50000) := fun h => by
    have h1 := leftV_sz tb 1 4000 (by decide) (by simpa using h)
    have h2 : 0 ≤ leftV 1 4000 tb := by simpa using h
    omega
  rw [sameF_comm tb ta] at HBA
  rw [sameF_refl ta] at HAA
  generalize sameF ta tb = r at HRS HAB HBA
  generalize decide (0 ≤ leftV 1 4000 ta) = la at HLA HSA
  generalize decide (0 ≤ leftV 1 4000 tb) = lb9 at HLB HSB
  obtain ⟨k, B, lb, cb, s, v⟩ := ha
  obtain ⟨k', B', lb', cb', s', v'⟩ := hb
  clear hA hB hG hs
  unfold FH.val tv at *
  dsimp only at *
  have HKB : Hid (Keeps [] w ((w.alloc (.cells #[.int .i64 k, .slice B lb cb, .string ⟨s.toArray⟩, .string ⟨v.toArray⟩] 25)).alloc (.cells #[.int .i64 k', .slice B' lb' cb', .string ⟨s'.toArray⟩, .string ⟨v'.toArray⟩] 25))) := ((Keeps.refl [] w).alloc _).alloc _
  obtain ⟨hb0, hb1⟩ := two_boxes8 w (.cells #[.int .i64 k, .slice B lb cb, .string ⟨s.toArray⟩, .string ⟨v.toArray⟩] 25) (.cells #[.int .i64 k', .slice B' lb' cb', .string ⟨s'.toArray⟩, .string ⟨v'.toArray⟩] 25)
  have HXA := Lib.hid hb0
  have HXB := Lib.hid hb1
  obtain ⟨⟨z0, z1, z2, z3⟩, _⟩ := four_facts8 hb0
  clear hb0 hb1
  go_enter Tryz.func6, Tryz.ntmps6
  go_wp2_with fail
  generalize (w.alloc (.cells #[.int .i64 k, .slice B lb cb, .string ⟨s.toArray⟩, .string ⟨v.toArray⟩] 25)).alloc (.cells #[.int .i64 k', .slice B' lb' cb', .string ⟨s'.toArray⟩, .string ⟨v'.toArray⟩] 25) = W1 at HKB HXA HXB z0 z1 z2 z3 ⊢
  refine (HLA.out _ HKB.out).mono ?_
  rintro e w2 ⟨rfl, hk2⟩
  have HK2 := Lib.hid (HKB.out.trans' hk2)
  have HXA2 := Lib.hid (blk_keep HXA.out hk2 (by simp))
  have HXB2 := Lib.hid (blk_keep HXB.out hk2 (by simp))
  obtain ⟨⟨y0, y1, y2, y3⟩, _⟩ := four_facts8 HXB2.out
  clear hk2 z0 z1 z2 z3 HXA HXB
  cases la
  · go_wp2_with fail
    refine (HKN.out _ HK2.out).mono ?_
    rintro e w9 ⟨rfl, hk9⟩
    have HK9 := Lib.hid (HK2.out.trans' hk9)
    clear hk9
    go_wp2_with fail
    go_ret
    exact ⟨by first | rfl | simp, HK9.out⟩
  · have hsa := HSA.out (by first | rfl | trivial)
    have HAB2 := Lib.hid (HAB.out hsa)
    have HAA2 := Lib.hid (HAA.out hsa)
    clear hsa HSA HAB HAA
    go_wp2_with fail
    refine (HLB.out _ HK2.out).mono ?_
    rintro e w3 ⟨rfl, hk3⟩
    have HK3 := Lib.hid (HK2.out.trans' hk3)
    have HXA3 := Lib.hid (blk_keep HXA2.out hk3 (by simp))
    have HXB3 := Lib.hid (blk_keep HXB2.out hk3 (by simp))
    clear hk3 y0 y1 y2 y3
    cases lb9
    · go_wp2_with fail
      refine (HKN.out _ HK3.out).mono ?_
      rintro e w9 ⟨rfl, hk9⟩
      have HK9 := Lib.hid (HK3.out.trans' hk9)
      clear hk9
      go_wp2_with fail
      go_ret
      exact ⟨by first | rfl | simp, HK9.out⟩
    · have HBA2 := Lib.hid (HBA.out (HSB.out (by first | rfl | trivial)))
      clear HSB HBA
      obtain ⟨⟨z0, z1, z2, z3⟩, _⟩ := four_facts8 HXA3.out
      obtain ⟨⟨y0, y1, y2, y3⟩, _⟩ := four_facts8 HXB3.out
      go_wp2_with fail
      refine (HRS.out _ HK3.out).mono ?_
      rintro e w4 ⟨rfl, hk4⟩
      have HK4 := Lib.hid (HK3.out.trans' hk4)
      have HXA4 := Lib.hid (blk_keep HXA3.out hk4 (by simp))
      have HXB4 := Lib.hid (blk_keep HXB3.out hk4 (by simp))
      clear hk4 z0 z1 z2 z3 y0 y1 y2 y3
      obtain ⟨⟨z0, z1, z2, z3⟩, _⟩ := four_facts8 HXA4.out
      obtain ⟨⟨y0, y1, y2, y3⟩, _⟩ := four_facts8 HXB4.out
      go_wp2_with fail
      refine (HAB2.out _ HK4.out).mono ?_
      rintro e w5 ⟨rfl, hk5⟩
      have HK5 := Lib.hid (HK4.out.trans' hk5)
      have HXA5 := Lib.hid (blk_keep HXA4.out hk5 (by simp))
      have HXB5 := Lib.hid (blk_keep HXB4.out hk5 (by simp))
      clear hk5 z0 z1 z2 z3 y0 y1 y2 y3
      obtain ⟨⟨z0, z1, z2, z3⟩, _⟩ := four_facts8 HXA5.out
      obtain ⟨⟨y0, y1, y2, y3⟩, _⟩ := four_facts8 HXB5.out
      cases r
      all_goals
        go_wp2_with fail
        refine (HBA2.out _ HK5.out).mono ?_
        rintro e w6 ⟨rfl, hk6⟩
        have HK6 := Lib.hid (HK5.out.trans' hk6)
        have HXA6 := Lib.hid (blk_keep HXA5.out hk6 (by simp))
        clear hk6 z0 z1 z2 z3 y0 y1 y2 y3
        obtain ⟨⟨z0, z1, z2, z3⟩, _⟩ := four_facts8 HXA6.out
        go_wp2_with fail
        refine (HAA2.out _ HK6.out).mono ?_
        rintro e w7 ⟨rfl, hk7⟩
        have HK7 := Lib.hid (HK6.out.trans' hk7)
        clear hk7 z0 z1 z2 z3
        go_wp2_with fail
        refine (HKN.out _ HK7.out).mono ?_
        rintro e w9 ⟨rfl, hk9⟩
        have HK9 := Lib.hid (HK7.out.trans' hk9)
        clear hk9
        go_wp2_with fail
        go_ret
        exact ⟨by first | rfl | simp, HK9.out⟩
end Go.Proofs.YtoggddoeanfjeaaGreatDoor
