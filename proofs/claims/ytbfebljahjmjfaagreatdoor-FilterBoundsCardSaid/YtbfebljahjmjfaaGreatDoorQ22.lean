import Derived.Test.YtbfebljahjmjfaaGreatDoorQ21
/- ber: the reference's flaws, walked. -/
namespace Go.Proofs.YtbfebljahjmjfaaGreatDoor
open Go.RowKit Go.Shelf
set_option linter.unusedVariables false
set_option linter.unusedSimpArgs false
set_option maxRecDepth 100000

set_option maxHeartbeats 2000000 in
theorem rflaws_is : ∀ (t : BV) (d : Nat) (h : BH) (w : World), d + hgtB t ≤ 4611686018427387904 → BerAt w t h →
  Calls Tryz.prog 107 #[h.val, .int .i64 (d : Int)] w fun e w' => e = .returned (.tuple #[.bool (badB t), .bool (deepB d t)]) ∧ Keeps [] w w' := by
 intro t
 induction t using BV.ind with
 | h c n k b l ih =>
  intro d h w hd ht
  have IH := Lib.hid ih
  obtain ⟨rfl, rfl, rfl, h4, h5, h6, h7, h8, h9, h10, h11⟩ := ht
  obtain ⟨c, n, k, A, la, ca, B, lb, cb⟩ := h
  have hl : l.length = lb := h8
  have hla : b.length = la := h6
  have hlb : lb ≤ 9223372036854775807 := Nat.le_trans h9 h10
  have HI := Lib.hid h11
  have HL := Lib.hid hl
  have HK : Hid (Keeps [] w (w.alloc (.cells #[.int .u8 (c : Int), .int .u8 (n : Int), .bool k, .slice A la ca, .slice B lb cb] 40))) := (Keeps.refl [] w).alloc _
  have HF : Hid (flawV c n k la lb = !stands (.mk c n k b l)) := by
   have h9 := flaw_stands c n k b l
   rw [hl, hla] at h9
   exact h9
  have hh : hgtB (.mk c n k b l) = hgtL l + 1 := by simp [hgtB]
  have HD : Hid (d + hgtL l + 1 ≤ 4611686018427387904) := by
   have h10 : d + hgtB (.mk c n k b l) ≤ 4611686018427387904 := hd
   show _ ≤ _
   omega
  have hd1 : d + 1 ≤ 4611686018427387904 := by have := HD.out; omega
  have HFB : Hid (∀ q : Bool, q = flawV c n k la lb → (q || badL l) = badB (.mk c n k b l)) := by
   intro q hq
   rw [hq, HF.out]
   rfl
  clear h4 h5 h6 h7 h8 h9 h10 h11 hl hla hd hh ih
  unfold BH.val
  obtain ⟨fl, hfl⟩ : ∃ fl, fl = flawV c n k la lb := ⟨_, rfl⟩
  have HFL := Lib.hid hfl
  clear hfl
  cases k
  ·go_enter Tryz.func107, Tryz.ntmps107
   go_wp2_with fail
   all_goals go_loopw [6, 7, 8] (fun a q i wr => ∃ j : Nat, a = .bool (fl || badL (l.take j)) ∧ q = .bool (decide ((16 : Int) < (d : Int)) || deepL (d + 1) (l.take j)) ∧ i = .int .i64 (j : Int) ∧ j ≤ lb ∧ Hid (Keeps [] w wr) ∧ Hid (wr.heap[w.heap.size]? = some (.cells #[.int .u8 (c : Int), .int .u8 (n : Int), .bool false, .slice A la ca, .slice B lb cb] 40 (0, 0)))) (fun _ _ i _ => lb - (intOf i).toNat)
   all_goals first
    | (refine ⟨0, ?_, by simp [deepL], rfl, Nat.zero_le _, HK.out, heap_new8 w _⟩; have h9 := HFL.out; simp_all [flawV, badL]; done)
    | (refine ⟨0, ?_, by simp [deepL], rfl, Nat.zero_le _, HK.out, heap_new8 w _⟩; rw [HFL.out]; unfold flawV; simp [badL]; done)
    | skip
   all_goals (
    obtain ⟨j, rfl, rfl, rfl, hj, HKR, HBX⟩ := hrel
    obtain ⟨⟨z0, z1, z2, z3, z4⟩, _⟩ := five_facts HBX.out
    obtain ⟨b1, hb1⟩ : ∃ b1, b1 = (fl || badL (l.take j)) := ⟨_, rfl⟩
    obtain ⟨b2, hb2⟩ : ∃ b2, b2 = (decide ((16 : Int) < (d : Int)) || deepL (d + 1) (l.take j)) := ⟨_, rfl⟩
    rw [← hb1, ← hb2]
    have HB1 := Lib.hid hb1
    have HB2 := Lib.hid hb2
    clear hb1 hb2
    by_cases hlt : j < lb
    ·have hx : l[j]? = some (l[j]'(by have := HL.out; omega)) := List.getElem?_eq_getElem _
     obtain ⟨b9, o1, hh, rfl, hc, hat⟩ := (ItemsAt.grow HKR.out B 0 l HI.out).at_ j _ hx
     rw [Nat.zero_add] at hc
     obtain ⟨g0, g1, g2, g3, g4⟩ := five_at hc
     have hmem : (l[j]'(by have := HL.out; omega)) ∈ l := List.getElem_mem _
     have htk : l.take (j + 1) = l.take j ++ [l[j]'(by have := HL.out; omega)] := List.take_succ_eq_append_getElem _
     have HSN := Lib.hid (deepL_snoc (d + 1) (l.take j) (l[j]'(by have := HL.out; omega)))
     have HSB := Lib.hid (badL_snoc (l.take j) (l[j]'(by have := HL.out; omega)))
     rw [← htk] at HSN HSB
     have hgx := hgtL_mem l _ hmem
     generalize hxx : l[j]'(by have := HL.out; omega) = x at *
     obtain ⟨c', n', k', A', la', ca', B', lb', cb'⟩ := hh
     have HREC : Hid (∀ X, Keeps [] wr X → Calls Tryz.prog 107 #[.agg #[.int .u8 (c' : Int), .int .u8 (n' : Int), .bool k', .slice A' la' ca', .slice B' lb' cb'], .int .i64 ((d : Int) + 1)] X fun e w' => e = .returned (.tuple #[.bool (badB x), .bool (deepB (d + 1) x)]) ∧ Keeps [] X w') := fun X hk => by
      have h9 := IH.out x hmem (d + 1) ⟨c', n', k', A', la', ca', B', lb', cb'⟩ X (by have := HD.out; omega) (BerAt.grow hk x _ hat)
      rw [show ((d + 1 : Nat) : Int) = (d : Int) + 1 by omega] at h9
      exact h9
     have hw : wrap64 ((d : Int) + 1) = (d : Int) + 1 := by unfold wrap64; omega
     clear hx hat hc htk hxx hmem hgx
     go_wp2_with fail
     refine (HREC.out _ (Keeps.refl [] _)).mono ?_
     rintro e w2 ⟨rfl, hk2⟩
     have HK2 := Lib.hid (HKR.out.trans' hk2)
     have HBX2 := Lib.hid (blk_keep HBX.out hk2 (by simp))
     clear hk2
     obtain ⟨y1, hy1⟩ : ∃ y1, y1 = badB x := ⟨_, rfl⟩
     obtain ⟨y2, hy2⟩ : ∃ y2, y2 = deepB (d + 1) x := ⟨_, rfl⟩
     rw [← hy1, ← hy2]
     have HS1 : Hid ((fl || badL (l.take (j + 1))) = (b1 || y1)) := by show _ = _; rw [HSB.out, HB1.out, hy1, Bool.or_assoc]
     have HS2 : Hid ((decide ((16 : Int) < (d : Int)) || deepL (d + 1) (l.take (j + 1))) = (b2 || y2)) := by show _ = _; rw [HSN.out, HB2.out, hy2, Bool.or_assoc]
     clear hy1 hy2
     go_wp2_with fail
     all_goals go_roundw
     all_goals first
      | (refine ⟨j + 1, ?_, ?_, by go_num, by omega, HK2.out, HBX2.out⟩ <;> first | (rw [HS1.out]; simp_all; done) | (rw [HS2.out]; simp_all; done) | (rw [HS1.out]) | (rw [HS2.out]))
      | (simp [intOf]; omega)
    ·obtain rfl : j = lb := by omega
     have htl : l.take j = l := List.take_of_length_le (by have := HL.out; omega)
     rw [htl] at HB1 HB2
     have hbb := HFB.out fl HFL.out
     have hdd : (decide ((16 : Int) < (d : Int)) || deepL (d + 1) l) = deepB d (.mk c n false b l) := by
      unfold deepB
      congr 1
      rw [Bool.eq_iff_iff]; simp; omega
     rw [← HB1.out] at hbb
     rw [← HB2.out] at hdd
     have HBB := Lib.hid hbb
     have HDD := Lib.hid hdd
     clear hbb hdd htl
     go_wp2_with fail
     go_ret2
     exact ⟨by rw [← HBB.out, ← HDD.out]; rfl, HKR.out⟩)
  ·rcases Nat.eq_zero_or_pos la with rfl | hlp
   ·go_enter Tryz.func107, Tryz.ntmps107
    go_wp2_with fail
    all_goals go_loopw [6, 7, 8] (fun a q i wr => ∃ j : Nat, a = .bool (fl || badL (l.take j)) ∧ q = .bool (decide ((16 : Int) < (d : Int)) || deepL (d + 1) (l.take j)) ∧ i = .int .i64 (j : Int) ∧ j ≤ lb ∧ Hid (Keeps [] w wr) ∧ Hid (wr.heap[w.heap.size]? = some (.cells #[.int .u8 (c : Int), .int .u8 (n : Int), .bool true, .slice A 0 ca, .slice B lb cb] 40 (0, 0)))) (fun _ _ i _ => lb - (intOf i).toNat)
    all_goals first
     | (refine ⟨0, ?_, by simp [deepL], rfl, Nat.zero_le _, HK.out, heap_new8 w _⟩; have h9 := HFL.out; simp_all [flawV, badL]; done)
     | (refine ⟨0, ?_, by simp [deepL], rfl, Nat.zero_le _, HK.out, heap_new8 w _⟩; rw [HFL.out]; unfold flawV; simp [badL]; done)
     | (refine ⟨0, ?_, by simp [deepL], rfl, Nat.zero_le _, HK.out, heap_new8 w _⟩; rw [HFL.out]; unfold flawV; simp [badL]; omega)
     | skip
    all_goals (
     obtain ⟨j, rfl, rfl, rfl, hj, HKR, HBX⟩ := hrel
     obtain ⟨⟨z0, z1, z2, z3, z4⟩, _⟩ := five_facts HBX.out
     obtain ⟨b1, hb1⟩ : ∃ b1, b1 = (fl || badL (l.take j)) := ⟨_, rfl⟩
     obtain ⟨b2, hb2⟩ : ∃ b2, b2 = (decide ((16 : Int) < (d : Int)) || deepL (d + 1) (l.take j)) := ⟨_, rfl⟩
     rw [← hb1, ← hb2]
     have HB1 := Lib.hid hb1
     have HB2 := Lib.hid hb2
     clear hb1 hb2
     by_cases hlt : j < lb
     ·have hx : l[j]? = some (l[j]'(by have := HL.out; omega)) := List.getElem?_eq_getElem _
      obtain ⟨b9, o1, hh, rfl, hc, hat⟩ := (ItemsAt.grow HKR.out B 0 l HI.out).at_ j _ hx
      rw [Nat.zero_add] at hc
      obtain ⟨g0, g1, g2, g3, g4⟩ := five_at hc
      have hmem : (l[j]'(by have := HL.out; omega)) ∈ l := List.getElem_mem _
      have htk : l.take (j + 1) = l.take j ++ [l[j]'(by have := HL.out; omega)] := List.take_succ_eq_append_getElem _
      have HSN := Lib.hid (deepL_snoc (d + 1) (l.take j) (l[j]'(by have := HL.out; omega)))
      have HSB := Lib.hid (badL_snoc (l.take j) (l[j]'(by have := HL.out; omega)))
      rw [← htk] at HSN HSB
      have hgx := hgtL_mem l _ hmem
      generalize hxx : l[j]'(by have := HL.out; omega) = x at *
      obtain ⟨c', n', k', A', la', ca', B', lb', cb'⟩ := hh
      have HREC : Hid (∀ X, Keeps [] wr X → Calls Tryz.prog 107 #[.agg #[.int .u8 (c' : Int), .int .u8 (n' : Int), .bool k', .slice A' la' ca', .slice B' lb' cb'], .int .i64 ((d : Int) + 1)] X fun e w' => e = .returned (.tuple #[.bool (badB x), .bool (deepB (d + 1) x)]) ∧ Keeps [] X w') := fun X hk => by
       have h9 := IH.out x hmem (d + 1) ⟨c', n', k', A', la', ca', B', lb', cb'⟩ X (by have := HD.out; omega) (BerAt.grow hk x _ hat)
       rw [show ((d + 1 : Nat) : Int) = (d : Int) + 1 by omega] at h9
       exact h9
      have hw : wrap64 ((d : Int) + 1) = (d : Int) + 1 := by unfold wrap64; omega
      clear hx hat hc htk hxx hmem hgx
      go_wp2_with fail
      refine (HREC.out _ (Keeps.refl [] _)).mono ?_
      rintro e w2 ⟨rfl, hk2⟩
      have HK2 := Lib.hid (HKR.out.trans' hk2)
      have HBX2 := Lib.hid (blk_keep HBX.out hk2 (by simp))
      clear hk2
      obtain ⟨y1, hy1⟩ : ∃ y1, y1 = badB x := ⟨_, rfl⟩
      obtain ⟨y2, hy2⟩ : ∃ y2, y2 = deepB (d + 1) x := ⟨_, rfl⟩
      rw [← hy1, ← hy2]
      have HS1 : Hid ((fl || badL (l.take (j + 1))) = (b1 || y1)) := by show _ = _; rw [HSB.out, HB1.out, hy1, Bool.or_assoc]
      have HS2 : Hid ((decide ((16 : Int) < (d : Int)) || deepL (d + 1) (l.take (j + 1))) = (b2 || y2)) := by show _ = _; rw [HSN.out, HB2.out, hy2, Bool.or_assoc]
      clear hy1 hy2
      go_wp2_with fail
      all_goals go_roundw
      all_goals first
       | (refine ⟨j + 1, ?_, ?_, by go_num, by omega, HK2.out, HBX2.out⟩ <;> first | (rw [HS1.out]; simp_all; done) | (rw [HS2.out]; simp_all; done) | (rw [HS1.out]) | (rw [HS2.out]))
       | (simp [intOf]; omega)
     ·obtain rfl : j = lb := by omega
      have htl : l.take j = l := List.take_of_length_le (by have := HL.out; omega)
      rw [htl] at HB1 HB2
      have hbb := HFB.out fl HFL.out
      have hdd : (decide ((16 : Int) < (d : Int)) || deepL (d + 1) l) = deepB d (.mk c n true b l) := by
       unfold deepB
       congr 1
       rw [Bool.eq_iff_iff]; simp; omega
      rw [← HB1.out] at hbb
      rw [← HB2.out] at hdd
      have HBB := Lib.hid hbb
      have HDD := Lib.hid hdd
      clear hbb hdd htl
      go_wp2_with fail
      go_ret2
      exact ⟨by rw [← HBB.out, ← HDD.out]; rfl, HKR.out⟩)
   ·have hln : ¬ la = 0 := by omega
    go_enter Tryz.func107, Tryz.ntmps107
    go_wp2_with fail
    all_goals go_loopw [6, 7, 8] (fun a q i wr => ∃ j : Nat, a = .bool (fl || badL (l.take j)) ∧ q = .bool (decide ((16 : Int) < (d : Int)) || deepL (d + 1) (l.take j)) ∧ i = .int .i64 (j : Int) ∧ j ≤ lb ∧ Hid (Keeps [] w wr) ∧ Hid (wr.heap[w.heap.size]? = some (.cells #[.int .u8 (c : Int), .int .u8 (n : Int), .bool true, .slice A la ca, .slice B lb cb] 40 (0, 0)))) (fun _ _ i _ => lb - (intOf i).toNat)
    all_goals first
     | (refine ⟨0, ?_, by simp [deepL], rfl, Nat.zero_le _, HK.out, heap_new8 w _⟩; have h9 := HFL.out; simp_all [flawV, badL]; done)
     | (refine ⟨0, ?_, by simp [deepL], rfl, Nat.zero_le _, HK.out, heap_new8 w _⟩; rw [HFL.out]; unfold flawV; simp [badL]; done)
     | (refine ⟨0, ?_, by simp [deepL], rfl, Nat.zero_le _, HK.out, heap_new8 w _⟩; rw [HFL.out]; unfold flawV; simp [badL]; omega)
     | skip
    all_goals (
     obtain ⟨j, rfl, rfl, rfl, hj, HKR, HBX⟩ := hrel
     obtain ⟨⟨z0, z1, z2, z3, z4⟩, _⟩ := five_facts HBX.out
     obtain ⟨b1, hb1⟩ : ∃ b1, b1 = (fl || badL (l.take j)) := ⟨_, rfl⟩
     obtain ⟨b2, hb2⟩ : ∃ b2, b2 = (decide ((16 : Int) < (d : Int)) || deepL (d + 1) (l.take j)) := ⟨_, rfl⟩
     rw [← hb1, ← hb2]
     have HB1 := Lib.hid hb1
     have HB2 := Lib.hid hb2
     clear hb1 hb2
     by_cases hlt : j < lb
     ·have hx : l[j]? = some (l[j]'(by have := HL.out; omega)) := List.getElem?_eq_getElem _
      obtain ⟨b9, o1, hh, rfl, hc, hat⟩ := (ItemsAt.grow HKR.out B 0 l HI.out).at_ j _ hx
      rw [Nat.zero_add] at hc
      obtain ⟨g0, g1, g2, g3, g4⟩ := five_at hc
      have hmem : (l[j]'(by have := HL.out; omega)) ∈ l := List.getElem_mem _
      have htk : l.take (j + 1) = l.take j ++ [l[j]'(by have := HL.out; omega)] := List.take_succ_eq_append_getElem _
      have HSN := Lib.hid (deepL_snoc (d + 1) (l.take j) (l[j]'(by have := HL.out; omega)))
      have HSB := Lib.hid (badL_snoc (l.take j) (l[j]'(by have := HL.out; omega)))
      rw [← htk] at HSN HSB
      have hgx := hgtL_mem l _ hmem
      generalize hxx : l[j]'(by have := HL.out; omega) = x at *
      obtain ⟨c', n', k', A', la', ca', B', lb', cb'⟩ := hh
      have HREC : Hid (∀ X, Keeps [] wr X → Calls Tryz.prog 107 #[.agg #[.int .u8 (c' : Int), .int .u8 (n' : Int), .bool k', .slice A' la' ca', .slice B' lb' cb'], .int .i64 ((d : Int) + 1)] X fun e w' => e = .returned (.tuple #[.bool (badB x), .bool (deepB (d + 1) x)]) ∧ Keeps [] X w') := fun X hk => by
       have h9 := IH.out x hmem (d + 1) ⟨c', n', k', A', la', ca', B', lb', cb'⟩ X (by have := HD.out; omega) (BerAt.grow hk x _ hat)
       rw [show ((d + 1 : Nat) : Int) = (d : Int) + 1 by omega] at h9
       exact h9
      have hw : wrap64 ((d : Int) + 1) = (d : Int) + 1 := by unfold wrap64; omega
      clear hx hat hc htk hxx hmem hgx
      go_wp2_with fail
      refine (HREC.out _ (Keeps.refl [] _)).mono ?_
      rintro e w2 ⟨rfl, hk2⟩
      have HK2 := Lib.hid (HKR.out.trans' hk2)
      have HBX2 := Lib.hid (blk_keep HBX.out hk2 (by simp))
      clear hk2
      obtain ⟨y1, hy1⟩ : ∃ y1, y1 = badB x := ⟨_, rfl⟩
      obtain ⟨y2, hy2⟩ : ∃ y2, y2 = deepB (d + 1) x := ⟨_, rfl⟩
      rw [← hy1, ← hy2]
      have HS1 : Hid ((fl || badL (l.take (j + 1))) = (b1 || y1)) := by show _ = _; rw [HSB.out, HB1.out, hy1, Bool.or_assoc]
      have HS2 : Hid ((decide ((16 : Int) < (d : Int)) || deepL (d + 1) (l.take (j + 1))) = (b2 || y2)) := by show _ = _; rw [HSN.out, HB2.out, hy2, Bool.or_assoc]
      clear hy1 hy2
      go_wp2_with fail
      all_goals go_roundw
      all_goals first
       | (refine ⟨j + 1, ?_, ?_, by go_num, by omega, HK2.out, HBX2.out⟩ <;> first | (rw [HS1.out]; simp_all; done) | (rw [HS2.out]; simp_all; done) | (rw [HS1.out]) | (rw [HS2.out]))
       | (simp [intOf]; omega)
     ·obtain rfl : j = lb := by omega
      have htl : l.take j = l := List.take_of_length_le (by have := HL.out; omega)
      rw [htl] at HB1 HB2
      have hbb := HFB.out fl HFL.out
      have hdd : (decide ((16 : Int) < (d : Int)) || deepL (d + 1) l) = deepB d (.mk c n true b l) := by
       unfold deepB
       congr 1
       rw [Bool.eq_iff_iff]; simp; omega
      rw [← HB1.out] at hbb
      rw [← HB2.out] at hdd
      have HBB := Lib.hid hbb
      have HDD := Lib.hid hdd
      clear hbb hdd htl
      go_wp2_with fail
      go_ret2
      exact ⟨by rw [← HBB.out, ← HDD.out]; rfl, HKR.out⟩)

end Go.Proofs.YtbfebljahjmjfaaGreatDoor
/- ber: the document's Size. -/
namespace Go.Proofs.YtbfebljahjmjfaaGreatDoor
open Go.RowKit Go.Shelf
set_option linter.unusedVariables false
set_option linter.unusedSimpArgs false
set_option maxRecDepth 100000

mutual
/-- How many bytes a value has; more than may be: some such number. -/
def sizeB : BV → Nat
 | .mk _ _ _ b l => 1 + (lenB (sizeL b.length l)).length + sizeL b.length l
def sizeL : Nat → List BV → Nat
 | acc, [] => acc
 | acc, t :: r => if acc ≤ 65536 then sizeL (acc + sizeB t) r else acc
end
mutual
/-- The longest Bytes in a value. -/
def maxB : BV → Nat
 | .mk _ _ _ b l => max b.length (maxL l)
def maxL : List BV → Nat
 | [] => 0
 | t :: r => max (maxB t) (maxL r)
end
theorem maxL_mem : ∀ (l : List BV) (t : BV), t ∈ l → maxB t ≤ maxL l
 | x :: r, t, hm => by
  unfold maxL
  rcases List.mem_cons.1 hm with hm | hm
  ·subst hm; exact Nat.le_max_left _ _
  ·exact Nat.le_trans (maxL_mem r t hm) (Nat.le_max_right _ _)
theorem sizeL_le (M : Nat) : ∀ (l : List BV) (acc : Nat), (∀ t ∈ l, sizeB t ≤ M) → sizeL acc l ≤ max acc (65536 + M)
 | [], acc, _ => by unfold sizeL; exact Nat.le_max_left _ _
 | t :: r, acc, h => by
  unfold sizeL
  split
  ·have h1 := sizeL_le M r (acc + sizeB t) (fun x hx => h x (List.mem_cons_of_mem _ hx))
   have h2 := h t (List.mem_cons_self ..)
   omega
  ·omega
theorem sizeB_le : ∀ (t : BV), sizeB t ≤ maxB t + 65546 * hgtB t := by
 intro t
 induction t using BV.ind with
 | h c n k b l ih =>
  have h1 := sizeL_le (maxL l + 65546 * hgtL l) l b.length (fun t ht => by
   have h2 := ih t ht
   have h3 := maxL_mem l t ht
   have h4 := hgtL_mem l t ht
   omega)
  have h5 := (lenB_len (sizeL b.length l)).2
  have e1 : sizeB (.mk c n k b l) = 1 + (lenB (sizeL b.length l)).length + sizeL b.length l := by simp [sizeB]
  have e2 : maxB (.mk c n k b l) = max b.length (maxL l) := by simp [maxB]
  have e3 : hgtB (.mk c n k b l) = hgtL l + 1 := by simp [hgtB]
  rw [e1, e2, e3]
  omega

theorem retI {a b : Int} (h : a = b) : Ending.returned (.int .i64 a) = .returned (.int .i64 b) := by rw [h]

set_option maxHeartbeats 1000000 in
theorem rsize_is : ∀ (t : BV) (h : BH) (w : World), maxB t + 65546 * hgtB t ≤ 4611686018427387904 → BerAt w t h →
  Calls Tryz.prog 108 #[h.val] w fun e w' => e = .returned (.int .i64 (sizeB t : Int)) ∧ Keeps [] w w' := by
 intro t
 induction t using BV.ind with
 | h c n k b l ih =>
  intro h w hd ht
  have IH := Lib.hid ih
  obtain ⟨rfl, rfl, rfl, h4, h5, h6, h7, h8, h9, h10, h11⟩ := ht
  obtain ⟨c, n, k, A, la, ca, B, lb, cb⟩ := h
  have hl : l.length = lb := h8
  have hla : b.length = la := h6
  have hlb : lb ≤ 9223372036854775807 := Nat.le_trans h9 h10
  have e2 : maxB (.mk c n k b l) = max b.length (maxL l) := by simp [maxB]
  have e3 : hgtB (.mk c n k b l) = hgtL l + 1 := by simp [hgtB]
  have hd' : maxB (.mk c n k b l) + 65546 * hgtB (.mk c n k b l) ≤ 4611686018427387904 := hd
  rw [e2, e3] at hd'
  have HSM : Hid (∀ t ∈ l, maxB t + 65546 * hgtB t ≤ 4611686018427387904 - 65546 ∧ sizeB t ≤ 4611686018427387904 - 65546) := by
   intro t ht
   have h2 := sizeB_le t
   have h3 := maxL_mem l t ht
   have h4 := hgtL_mem l t ht
   omega
  have HEQ : Hid (sizeB (.mk c n k b l) = 1 + (lenB (sizeL la l)).length + sizeL la l) := by show _ = _; rw [← hla]; simp [sizeB]
  have hla2 : la ≤ 4611686018427387904 := by omega
  have HI := Lib.hid h11
  have HL := Lib.hid hl
  have HK : Hid (Keeps [] w (w.alloc (.cells #[.int .u8 (c : Int), .int .u8 (n : Int), .bool k, .slice A la ca, .slice B lb cb] 40))) := (Keeps.refl [] w).alloc _
  clear h4 h5 h6 h7 h8 h9 h10 h11 hl hla hd hd' e2 e3 ih
  unfold BH.val
  go_enter Tryz.func108, Tryz.ntmps108
  go_wp2_with fail
  go_loopw [3, 4] (fun a i wr => ∃ (acc j : Nat), a = .int .i64 (acc : Int) ∧ i = .int .i64 (j : Int) ∧ j ≤ lb ∧ acc ≤ 4611686018427387904 ∧ Hid (sizeL acc (l.drop j) = sizeL la l) ∧ Hid (Keeps [] w wr) ∧ Hid (wr.heap[w.heap.size]? = some (.cells #[.int .u8 (c : Int), .int .u8 (n : Int), .bool k, .slice A la ca, .slice B lb cb] 40 (0, 0)))) (fun _ i _ => lb - (intOf i).toNat)
  case atStart => exact ⟨la, 0, rfl, rfl, Nat.zero_le _, hla2, rfl, HK.out, heap_new8 w _⟩
  case round =>
   obtain ⟨acc, j, rfl, rfl, hj, hacc, HS, HKR, HBX⟩ := hrel
   obtain ⟨⟨z0, z1, z2, z3, z4⟩, _⟩ := five_facts HBX.out
   by_cases hgo : j < lb ∧ acc ≤ 65536
   ·obtain ⟨hlt, ha⟩ := hgo
    have hx : l[j]? = some (l[j]'(by have := HL.out; omega)) := List.getElem?_eq_getElem _
    obtain ⟨b9, o1, hh, rfl, hc, hat⟩ := (ItemsAt.grow HKR.out B 0 l HI.out).at_ j _ hx
    rw [Nat.zero_add] at hc
    obtain ⟨g0, g1, g2, g3, g4⟩ := five_at hc
    have hmem : (l[j]'(by have := HL.out; omega)) ∈ l := List.getElem_mem _
    have hdr : l.drop j = l[j]'(by have := HL.out; omega) :: l.drop (j + 1) := List.drop_eq_getElem_cons _
    generalize hxx : l[j]'(by have := HL.out; omega) = x at *
    obtain ⟨hm1, hm2⟩ := HSM.out x hmem
    have HS2 : Hid (sizeL (acc + sizeB x) (l.drop (j + 1)) = sizeL la l) := by
     have h9 := HS.out
     rw [hdr, sizeL, if_pos ha] at h9
     exact h9
    obtain ⟨c', n', k', A', la', ca', B', lb', cb'⟩ := hh
    have HREC : Hid (∀ X, Keeps [] wr X → Calls Tryz.prog 108 #[.agg #[.int .u8 (c' : Int), .int .u8 (n' : Int), .bool k', .slice A' la' ca', .slice B' lb' cb']] X fun e w' => e = .returned (.int .i64 (sizeB x : Int)) ∧ Keeps [] X w') := fun X hk => IH.out x hmem ⟨c', n', k', A', la', ca', B', lb', cb'⟩ X (by omega) (BerAt.grow hk x _ hat)
    clear hx hat hc hdr hxx hmem hm1 HS
    go_wp2_with fail
    refine (HREC.out _ (Keeps.refl [] _)).mono ?_
    rintro e w2 ⟨rfl, hk2⟩
    have HK2 := Lib.hid (HKR.out.trans' hk2)
    have HBX2 := Lib.hid (blk_keep HBX.out hk2 (by simp))
    clear hk2
    generalize sizeB x = sx at *
    go_wp2_with fail
    go_roundw
    case rel => exact ⟨acc + sx, j + 1, by go_num, by go_num, by omega, by omega, HS2, HK2.out, HBX2.out⟩
    case measure => simp [intOf]; omega
   ·have HE : Hid (sizeL la l = acc) := by
     have h9 := HS.out
     show _ = _
     rw [← h9]
     by_cases hlt : j < lb
     ·rw [List.drop_eq_getElem_cons (by have := HL.out; omega), sizeL, if_neg (fun q => hgo ⟨hlt, q⟩)]
     ·rw [List.drop_of_length_le (by have := HL.out; omega), sizeL]
    have HM := Lib.hid (fun X => many_is acc X (by omega))
    have HLN := Lib.hid (lenB_len acc).2
    have hln : (lenB acc).length ≤ 9 := HLN.out
    rw [HE.out] at HEQ
    generalize hln2 : (lenB acc).length = nl at *
    clear hln2 HE HS
    by_cases hlt : j < lb
    ·have ha : ¬ acc ≤ 65536 := fun q => hgo ⟨hlt, q⟩
     go_wp2_with fail
     refine (HM.out _).mono ?_
     rintro e w2 ⟨rfl, rfl⟩
     go_wp2_with fail
     go_ret
     exact ⟨by rw [HEQ.out]; exact retI (by omega), HKR.out⟩
    ·go_wp2_with fail
     refine (HM.out _).mono ?_
     rintro e w2 ⟨rfl, rfl⟩
     go_wp2_with fail
     go_ret
     exact ⟨by rw [HEQ.out]; exact retI (by omega), HKR.out⟩

end Go.Proofs.YtbfebljahjmjfaaGreatDoor
/- ber: the document's Check. -/
namespace Go.Proofs.YtbfebljahjmjfaaGreatDoor
open Go.RowKit Go.Shelf
set_option linter.unusedVariables false
set_option linter.unusedSimpArgs false
set_option maxRecDepth 100000

/-- May a value be? -/
def checkB (t : BV) : Int := if badB t then 2 else if deepB 1 t then 150 else if 65536 < sizeB t then 3 else 0

theorem rcheck_is (t : BV) (h : BH) (w : World) (hb : maxB t + 65546 * hgtB t ≤ 4611686018427380000) (ht : BerAt w t h) :
  Calls Tryz.prog 50 #[h.val] w fun e w' => e = .returned (.int .i64 (checkB t)) ∧ Keeps [] w w' := by
 have HF : Hid (∀ X, Keeps [] w X → Calls Tryz.prog 107 #[h.val, .int .i64 1] X fun e w' => e = .returned (.tuple #[.bool (badB t), .bool (deepB 1 t)]) ∧ Keeps [] X w') := fun X hk => rflaws_is t 1 h X (by omega) (BerAt.grow hk t h ht)
 have HS : Hid (∀ X, Keeps [] w X → Calls Tryz.prog 108 #[h.val] X fun e w' => e = .returned (.int .i64 (sizeB t : Int)) ∧ Keeps [] X w') := fun X hk => rsize_is t h X (by omega) (BerAt.grow hk t h ht)
 have HC : Hid (checkB t = if badB t then 2 else if deepB 1 t then 150 else if 65536 < sizeB t then 3 else 0) := rfl
 have hz := sizeB_le t
 have hz2 : sizeB t ≤ 4611686018427387904 := by omega
 obtain ⟨c, n, k, A, la, ca, B, lb, cb⟩ := h
 generalize badB t = b1 at *
 generalize deepB 1 t = b2 at *
 generalize sizeB t = sz at *
 generalize checkB t = ch at *
 clear ht hb hz
 unfold BH.val at *
 have HK : Hid (Keeps [] w (w.alloc (.cells #[.int .u8 (c : Int), .int .u8 (n : Int), .bool k, .slice A la ca, .slice B lb cb] 40))) := (Keeps.refl [] w).alloc _
 go_enter Tryz.func50, Tryz.ntmps50
 go_wp2_with fail
 refine (HF.out _ HK.out).mono ?_
 rintro e w1 ⟨rfl, hk1⟩
 have HBX : Hid (w1.heap[w.heap.size]? = some (.cells #[.int .u8 (c : Int), .int .u8 (n : Int), .bool k, .slice A la ca, .slice B lb cb] 40 (0, 0))) := blk_keep (heap_new8 w _) hk1 (by simp)
 have HK1 := Lib.hid (HK.out.trans' hk1)
 obtain ⟨⟨z0, z1, z2, z3, z4⟩, _⟩ := five_facts HBX.out
 clear hk1
 cases b1
 ·cases b2
  ·go_wp2_with fail
   refine (HS.out _ HK1.out).mono ?_
   rintro e w2 ⟨rfl, hk2⟩
   have HK2 := Lib.hid (HK1.out.trans' hk2)
   clear hk2
   by_cases hsz : (65536 : Int) < (sz : Int)
   ·go_wp2_with fail
    go_ret
    exact ⟨by rw [HC.out]; simp; omega, HK2.out⟩
   ·go_wp2_with fail
    go_ret
    exact ⟨by rw [HC.out]; simp; omega, HK2.out⟩
  ·go_wp2_with fail
   go_ret
   exact ⟨by rw [HC.out]; rfl, HK1.out⟩
 ·go_wp2_with fail
  go_ret
  exact ⟨by rw [HC.out]; rfl, HK1.out⟩

end Go.Proofs.YtbfebljahjmjfaaGreatDoor
/- ber: the law's left: is a value light? -/
namespace Go.Proofs.YtbfebljahjmjfaaGreatDoor
open Go.RowKit Go.Shelf
set_option linter.unusedVariables false
set_option linter.unusedSimpArgs false
set_option maxRecDepth 100000

mutual
/-- What is left of a room behind a value; below 0: it was too little, or the value is too deep. -/
def leftB : Nat → Int → BV → Int
 | d, r, .mk _ _ _ b l => if 40 < d ∨ r < (b.length : Int) ∨ r < (l.length : Int) then -1 else leftL (d + 1) (r - 1 - (b.length : Int)) l
def leftL : Nat → Int → List BV → Int
 | _, r, [] => r
 | d, r, t :: rest => if 0 ≤ r then leftL d (leftB d r t) rest else r
end
theorem leftL_in (d : Nat) : ∀ (l : List BV) (r : Int), -1 ≤ r → (∀ t ∈ l, ∀ q, 0 ≤ q → -1 ≤ leftB d q t ∧ leftB d q t ≤ q) → -1 ≤ leftL d r l ∧ leftL d r l ≤ r
 | [], r, h, _ => by unfold leftL; omega
 | t :: rest, r, h, ht => by
  unfold leftL
  split
  ·rename_i h0
   have h1 := ht t (List.mem_cons_self ..) r h0
   have h2 := leftL_in d rest (leftB d r t) h1.1 (fun x hx => ht x (List.mem_cons_of_mem _ hx))
   omega
  ·omega
theorem leftB_in : ∀ (t : BV) (d : Nat) (r : Int), 0 ≤ r → -1 ≤ leftB d r t ∧ leftB d r t ≤ r := by
 intro t
 induction t using BV.ind with
 | h c n k b l ih =>
  intro d r hr
  unfold leftB
  split
  ·omega
  ·have h1 := leftL_in (d + 1) l (r - 1 - (b.length : Int)) (by omega) (fun t ht q hq => ih t ht (d + 1) q hq)
   omega

end Go.Proofs.YtbfebljahjmjfaaGreatDoor
/- ber: the document's Same. -/
namespace Go.Proofs.YtbfebljahjmjfaaGreatDoor
open Go.RowKit Go.Shelf
set_option linter.unusedVariables false
set_option linter.unusedSimpArgs false
set_option maxRecDepth 100000

mutual
/-- Are two values the same? -/
def sameB : BV → BV → Bool
 | .mk c n k b l, .mk c' n' k' b' l' => (c == c' && (n == n' && (k == k' && (b == b' && l.length == l'.length)))) && sameL l l'
def sameL : List BV → List BV → Bool
 | x :: r, y :: s => sameB x y && sameL r s
 | _, _ => true
end

end Go.Proofs.YtbfebljahjmjfaaGreatDoor
