/- Texts of one proof, laid together: E24. -/
import Derived.Test.YtnengckecooohaaM08
/- ber: the reference's flaws, walked. -/
namespace Go.Proofs.Ytnengckecooohaa
open Go.RowKit Go.Shelf
set_option linter.unusedVariables false
set_option linter.unusedSimpArgs false
set_option maxRecDepth 100000

set_option maxHeartbeats 2000000 in
theorem rflaws_is : ∀ (t : BV) (d : Nat) (h : BH) (w : World), d + hgtB t ≤ 4611686018427387904 → BerAt w t h →
    Calls Try.prog 38 #[h.val, .int .i64 (d : Int)] w fun e w' => e = .returned (.tuple #[.bool (badB t), .bool (deepB d t)]) ∧ Keeps [] w w' := by
  intro t
  induction t using BV.ind with
  | h c n k b l ih =>
    intro d h w hd ht
    have IH := Lib.hid ih
    obtain ⟨rfl, rfl, rfl, h4, h5, h6, h7, h8, h9, h10, h11⟩ := ht
    obtain ⟨c, n, k, A, la, ca, B, lb, cb⟩ := h
    have hl : l.length = lb := h8
    have hla : b.length = la := h6
    have hlb : lb ≤ 9223372036854775807 := Nat.le_trans h9 h10
    have HI := Lib.hid h11
    have HL := Lib.hid hl
    have HK : Hid (Keeps [] w (w.alloc (.cells #[.int .u8 (c : Int), .int .u8 (n : Int), .bool k, .slice A la ca, .slice B lb cb] 25))) := (Keeps.refl [] w).alloc _
    have HF : Hid (flawV c n k la lb = !stands (.mk c n k b l)) := by
      have h9 := flaw_stands c n k b l
      rw [hl, hla] at h9
      exact h9
    have hh : hgtB (.mk c n k b l) = hgtL l + 1 := by simp [hgtB]
    have HD : Hid (d + hgtL l + 1 ≤ 4611686018427387904) := by
      have h10 : d + hgtB (.mk c n k b l) ≤ 4611686018427387904 := hd
      show _ ≤ _
      omega
    have hd1 : d + 1 ≤ 4611686018427387904 := by have := HD.out; omega
    have HFB : Hid (∀ q : Bool, q = flawV c n k la lb → (q || badL l) = badB (.mk c n k b l)) := by
      intro q hq
      rw [hq, HF.out]
      rfl
    clear h4 h5 h6 h7 h8 h9 h10 h11 hl hla hd hh ih
    unfold BH.val
    obtain ⟨fl, hfl⟩ : ∃ fl, fl = flawV c n k la lb := ⟨_, rfl⟩
    have HFL := Lib.hid hfl
    clear hfl
    cases k
    · go_enter Try.func38, Try.ntmps38
      go_wp2_with fail
      all_goals go_loopw [6, 7, 8] (fun a q i wr => ∃ j : Nat, a = .bool (fl || badL (l.take j)) ∧ q = .bool (decide ((16 : Int) < (d : Int)) || deepL (d + 1) (l.take j)) ∧ i = .int .i64 (j : Int) ∧ j ≤ lb ∧ Hid (Keeps [] w wr) ∧ Hid (wr.heap[w.heap.size]? = some (.cells #[.int .u8 (c : Int), .int .u8 (n : Int), .bool false, .slice A la ca, .slice B lb cb] 25 (0, 0)))) (fun _ _ i _ => lb - (intOf i).toNat)
      all_goals first
        | (refine ⟨0, ?_, by simp [deepL], rfl, Nat.zero_le _, HK.out, heap_new8 w _⟩; have h9 := HFL.out; simp_all [flawV, badL]; done)
        | (refine ⟨0, ?_, by simp [deepL], rfl, Nat.zero_le _, HK.out, heap_new8 w _⟩; rw [HFL.out]; unfold flawV; simp [badL]; done)
        | skip
      all_goals (
        obtain ⟨j, rfl, rfl, rfl, hj, HKR, HBX⟩ := hrel
        obtain ⟨⟨z0, z1, z2, z3, z4⟩, _⟩ := five_facts HBX.out
        obtain ⟨b1, hb1⟩ : ∃ b1, b1 = (fl || badL (l.take j)) := ⟨_, rfl⟩
        obtain ⟨b2, hb2⟩ : ∃ b2, b2 = (decide ((16 : Int) < (d : Int)) || deepL (d + 1) (l.take j)) := ⟨_, rfl⟩
        rw [← hb1, ← hb2]
        have HB1 := Lib.hid hb1
        have HB2 := Lib.hid hb2
        clear hb1 hb2
        by_cases hlt : j < lb
        · have hx : l[j]? = some (l[j]'(by have := HL.out; omega)) := List.getElem?_eq_getElem _
          obtain ⟨b9, o1, hh, rfl, hc, hat⟩ := (ItemsAt.grow HKR.out B 0 l HI.out).at_ j _ hx
          rw [Nat.zero_add] at hc
          obtain ⟨g0, g1, g2, g3, g4⟩ := five_at hc
          have hmem : (l[j]'(by have := HL.out; omega)) ∈ l := List.getElem_mem _
          have htk : l.take (j + 1) = l.take j ++ [l[j]'(by have := HL.out; omega)] := List.take_succ_eq_append_getElem _
          have HSN := Lib.hid (deepL_snoc (d + 1) (l.take j) (l[j]'(by have := HL.out; omega)))
          have HSB := Lib.hid (badL_snoc (l.take j) (l[j]'(by have := HL.out; omega)))
          rw [← htk] at HSN HSB
          have hgx := hgtL_mem l _ hmem
          generalize hxx : l[j]'(by have := HL.out; omega) = x at *
          obtain ⟨c', n', k', A', la', ca', B', lb', cb'⟩ := hh
          have HREC : Hid (∀ X, Keeps [] wr X → Calls Try.prog 38 #[.agg #[.int .u8 (c' : Int), .int .u8 (n' : Int), .bool k', .slice A' la' ca', .slice B' lb' cb'], .int .i64 ((d : Int) + 1)] X fun e w' => e = .returned (.tuple #[.bool (badB x), .bool (deepB (d + 1) x)]) ∧ Keeps [] X w') := fun X hk => by
            have h9 := IH.out x hmem (d + 1) ⟨c', n', k', A', la', ca', B', lb', cb'⟩ X (by have := HD.out; omega) (BerAt.grow hk x _ hat)
            rw [show ((d + 1 : Nat) : Int) = (d : Int) + 1 by omega] at h9
            exact h9
          have hw : wrap64 ((d : Int) + 1) = (d : Int) + 1 := by unfold wrap64; omega
          clear hx hat hc htk hxx hmem hgx
          go_wp2_with fail
          refine (HREC.out _ (Keeps.refl [] _)).mono ?_
          rintro e w2 ⟨rfl, hk2⟩
          have HK2 := Lib.hid (HKR.out.trans' hk2)
          have HBX2 := Lib.hid (blk_keep HBX.out hk2 (by simp))
          clear hk2
          obtain ⟨y1, hy1⟩ : ∃ y1, y1 = badB x := ⟨_, rfl⟩
          obtain ⟨y2, hy2⟩ : ∃ y2, y2 = deepB (d + 1) x := ⟨_, rfl⟩
          rw [← hy1, ← hy2]
          have HS1 : Hid ((fl || badL (l.take (j + 1))) = (b1 || y1)) := by show _ = _; rw [HSB.out, HB1.out, hy1, Bool.or_assoc]
          have HS2 : Hid ((decide ((16 : Int) < (d : Int)) || deepL (d + 1) (l.take (j + 1))) = (b2 || y2)) := by show _ = _; rw [HSN.out, HB2.out, hy2, Bool.or_assoc]
          clear hy1 hy2
          go_wp2_with fail
          all_goals go_roundw
          all_goals first
            | (refine ⟨j + 1, ?_, ?_, by go_num, by omega, HK2.out, HBX2.out⟩ <;> first | (rw [HS1.out]; simp_all; done) | (rw [HS2.out]; simp_all; done) | (rw [HS1.out]) | (rw [HS2.out]))
            | (simp [intOf]; omega)
        · obtain rfl : j = lb := by omega
          have htl : l.take j = l := List.take_of_length_le (by have := HL.out; omega)
          rw [htl] at HB1 HB2
          have hbb := HFB.out fl HFL.out
          have hdd : (decide ((16 : Int) < (d : Int)) || deepL (d + 1) l) = deepB d (.mk c n false b l) := by
            unfold deepB
            congr 1
            rw [Bool.eq_iff_iff]; simp; omega
          rw [← HB1.out] at hbb
          rw [← HB2.out] at hdd
          have HBB := Lib.hid hbb
          have HDD := Lib.hid hdd
          clear hbb hdd htl
          go_wp2_with fail
          go_ret2
          exact ⟨by rw [← HBB.out, ← HDD.out]; rfl, HKR.out⟩)
    · rcases Nat.eq_zero_or_pos la with rfl | hlp
      · go_enter Try.func38, Try.ntmps38
        go_wp2_with fail
        all_goals go_loopw [6, 7, 8] (fun a q i wr => ∃ j : Nat, a = .bool (fl || badL (l.take j)) ∧ q = .bool (decide ((16 : Int) < (d : Int)) || deepL (d + 1) (l.take j)) ∧ i = .int .i64 (j : Int) ∧ j ≤ lb ∧ Hid (Keeps [] w wr) ∧ Hid (wr.heap[w.heap.size]? = some (.cells #[.int .u8 (c : Int), .int .u8 (n : Int), .bool true, .slice A 0 ca, .slice B lb cb] 25 (0, 0)))) (fun _ _ i _ => lb - (intOf i).toNat)
        all_goals first
          | (refine ⟨0, ?_, by simp [deepL], rfl, Nat.zero_le _, HK.out, heap_new8 w _⟩; have h9 := HFL.out; simp_all [flawV, badL]; done)
          | (refine ⟨0, ?_, by simp [deepL], rfl, Nat.zero_le _, HK.out, heap_new8 w _⟩; rw [HFL.out]; unfold flawV; simp [badL]; done)
          | (refine ⟨0, ?_, by simp [deepL], rfl, Nat.zero_le _, HK.out, heap_new8 w _⟩; rw [HFL.out]; unfold flawV; simp [badL]; omega)
          | skip
        all_goals (
          obtain ⟨j, rfl, rfl, rfl, hj, HKR, HBX⟩ := hrel
          obtain ⟨⟨z0, z1, z2, z3, z4⟩, _⟩ := five_facts HBX.out
          obtain ⟨b1, hb1⟩ : ∃ b1, b1 = (fl || badL (l.take j)) := ⟨_, rfl⟩
          obtain ⟨b2, hb2⟩ : ∃ b2, b2 = (decide ((16 : Int) < (d : Int)) || deepL (d + 1) (l.take j)) := ⟨_, rfl⟩
          rw [← hb1, ← hb2]
          have HB1 := Lib.hid hb1
          have HB2 := Lib.hid hb2
          clear hb1 hb2
          by_cases hlt : j < lb
          · have hx : l[j]? = some (l[j]'(by have := HL.out; omega)) := List.getElem?_eq_getElem _
            obtain ⟨b9, o1, hh, rfl, hc, hat⟩ := (ItemsAt.grow HKR.out B 0 l HI.out).at_ j _ hx
            rw [Nat.zero_add] at hc
            obtain ⟨g0, g1, g2, g3, g4⟩ := five_at hc
            have hmem : (l[j]'(by have := HL.out; omega)) ∈ l := List.getElem_mem _
            have htk : l.take (j + 1) = l.take j ++ [l[j]'(by have := HL.out; omega)] := List.take_succ_eq_append_getElem _
            have HSN := Lib.hid (deepL_snoc (d + 1) (l.take j) (l[j]'(by have := HL.out; omega)))
            have HSB := Lib.hid (badL_snoc (l.take j) (l[j]'(by have := HL.out; omega)))
            rw [← htk] at HSN HSB
            have hgx := hgtL_mem l _ hmem
            generalize hxx : l[j]'(by have := HL.out; omega) = x at *
            obtain ⟨c', n', k', A', la', ca', B', lb', cb'⟩ := hh
            have HREC : Hid (∀ X, Keeps [] wr X → Calls Try.prog 38 #[.agg #[.int .u8 (c' : Int), .int .u8 (n' : Int), .bool k', .slice A' la' ca', .slice B' lb' cb'], .int .i64 ((d : Int) + 1)] X fun e w' => e = .returned (.tuple #[.bool (badB x), .bool (deepB (d + 1) x)]) ∧ Keeps [] X w') := fun X hk => by
              have h9 := IH.out x hmem (d + 1) ⟨c', n', k', A', la', ca', B', lb', cb'⟩ X (by have := HD.out; omega) (BerAt.grow hk x _ hat)
              rw [show ((d + 1 : Nat) : Int) = (d : Int) + 1 by omega] at h9
              exact h9
            have hw : wrap64 ((d : Int) + 1) = (d : Int) + 1 := by unfold wrap64; omega
            clear hx hat hc htk hxx hmem hgx
            go_wp2_with fail
            refine (HREC.out _ (Keeps.refl [] _)).mono ?_
            rintro e w2 ⟨rfl, hk2⟩
            have HK2 := Lib.hid (HKR.out.trans' hk2)
            have HBX2 := Lib.hid (blk_keep HBX.out hk2 (by simp))
            clear hk2
            obtain ⟨y1, hy1⟩ : ∃ y1, y1 = badB x := ⟨_, rfl⟩
            obtain ⟨y2, hy2⟩ : ∃ y2, y2 = deepB (d + 1) x := ⟨_, rfl⟩
            rw [← hy1, ← hy2]
            have HS1 : Hid ((fl || badL (l.take (j + 1))) = (b1 || y1)) := by show _ = _; rw [HSB.out, HB1.out, hy1, Bool.or_assoc]
            have HS2 : Hid ((decide ((16 : Int) < (d : Int)) || deepL (d + 1) (l.take (j + 1))) = (b2 || y2)) := by show _ = _; rw [HSN.out, HB2.out, hy2, Bool.or_assoc]
            clear hy1 hy2
            go_wp2_with fail
            all_goals go_roundw
            all_goals first
              | (refine ⟨j + 1, ?_, ?_, by go_num, by omega, HK2.out, HBX2.out⟩ <;> first | (rw [HS1.out]; simp_all; done) | (rw [HS2.out]; simp_all; done) | (rw [HS1.out]) | (rw [HS2.out]))
              | (simp [intOf]; omega)
          · obtain rfl : j = lb := by omega
            have htl : l.take j = l := List.take_of_length_le (by have := HL.out; omega)
            rw [htl] at HB1 HB2
            have hbb := HFB.out fl HFL.out
            have hdd : (decide ((16 : Int) < (d : Int)) || deepL (d + 1) l) = deepB d (.mk c n true b l) := by
              unfold deepB
              congr 1
              rw [Bool.eq_iff_iff]; simp; omega
            rw [← HB1.out] at hbb
            rw [← HB2.out] at hdd
            have HBB := Lib.hid hbb
            have HDD := Lib.hid hdd
            clear hbb hdd htl
            go_wp2_with fail
            go_ret2
            exact ⟨by rw [← HBB.out, ← HDD.out]; rfl, HKR.out⟩)
      · have hln : ¬ la = 0 := by omega
        go_enter Try.func38, Try.ntmps38
        go_wp2_with fail
        all_goals go_loopw [6, 7, 8] (fun a q i wr => ∃ j : Nat, a = .bool (fl || badL (l.take j)) ∧ q = .bool (decide ((16 : Int) < (d : Int)) || deepL (d + 1) (l.take j)) ∧ i = .int .i64 (j : Int) ∧ j ≤ lb ∧ Hid (Keeps [] w wr) ∧ Hid (wr.heap[w.heap.size]? = some (.cells #[.int .u8 (c : Int), .int .u8 (n : Int), .bool true, .slice A la ca, .slice B lb cb] 25 (0, 0)))) (fun _ _ i _ => lb - (intOf i).toNat)
        all_goals first
          | (refine ⟨0, ?_, by simp [deepL], rfl, Nat.zero_le _, HK.out, heap_new8 w _⟩; have h9 := HFL.out; simp_all [flawV, badL]; done)
          | (refine ⟨0, ?_, by simp [deepL], rfl, Nat.zero_le _, HK.out, heap_new8 w _⟩; rw [HFL.out]; unfold flawV; simp [badL]; done)
          | (refine ⟨0, ?_, by simp [deepL], rfl, Nat.zero_le _, HK.out, heap_new8 w _⟩; rw [HFL.out]; unfold flawV; simp [badL]; omega)
          | skip
        all_goals (
          obtain ⟨j, rfl, rfl, rfl, hj, HKR, HBX⟩ := hrel
          obtain ⟨⟨z0, z1, z2, z3, z4⟩, _⟩ := five_facts HBX.out
          obtain ⟨b1, hb1⟩ : ∃ b1, b1 = (fl || badL (l.take j)) := ⟨_, rfl⟩
          obtain ⟨b2, hb2⟩ : ∃ b2, b2 = (decide ((16 : Int) < (d : Int)) || deepL (d + 1) (l.take j)) := ⟨_, rfl⟩
          rw [← hb1, ← hb2]
          have HB1 := Lib.hid hb1
          have HB2 := Lib.hid hb2
          clear hb1 hb2
          by_cases hlt : j < lb
          · have hx : l[j]? = some (l[j]'(by have := HL.out; omega)) := List.getElem?_eq_getElem _
            obtain ⟨b9, o1, hh, rfl, hc, hat⟩ := (ItemsAt.grow HKR.out B 0 l HI.out).at_ j _ hx
            rw [Nat.zero_add] at hc
            obtain ⟨g0, g1, g2, g3, g4⟩ := five_at hc
            have hmem : (l[j]'(by have := HL.out; omega)) ∈ l := List.getElem_mem _
            have htk : l.take (j + 1) = l.take j ++ [l[j]'(by have := HL.out; omega)] := List.take_succ_eq_append_getElem _
            have HSN := Lib.hid (deepL_snoc (d + 1) (l.take j) (l[j]'(by have := HL.out; omega)))
            have HSB := Lib.hid (badL_snoc (l.take j) (l[j]'(by have := HL.out; omega)))
            rw [← htk] at HSN HSB
            have hgx := hgtL_mem l _ hmem
            generalize hxx : l[j]'(by have := HL.out; omega) = x at *
            obtain ⟨c', n', k', A', la', ca', B', lb', cb'⟩ := hh
            have HREC : Hid (∀ X, Keeps [] wr X → Calls Try.prog 38 #[.agg #[.int .u8 (c' : Int), .int .u8 (n' : Int), .bool k', .slice A' la' ca', .slice B' lb' cb'], .int .i64 ((d : Int) + 1)] X fun e w' => e = .returned (.tuple #[.bool (badB x), .bool (deepB (d + 1) x)]) ∧ Keeps [] X w') := fun X hk => by
              have h9 := IH.out x hmem (d + 1) ⟨c', n', k', A', la', ca', B', lb', cb'⟩ X (by have := HD.out; omega) (BerAt.grow hk x _ hat)
              rw [show ((d + 1 : Nat) : Int) = (d : Int) + 1 by omega] at h9
              exact h9
            have hw : wrap64 ((d : Int) + 1) = (d : Int) + 1 := by unfold wrap64; omega
            clear hx hat hc htk hxx hmem hgx
            go_wp2_with fail
            refine (HREC.out _ (Keeps.refl [] _)).mono ?_
            rintro e w2 ⟨rfl, hk2⟩
            have HK2 := Lib.hid (HKR.out.trans' hk2)
            have HBX2 := Lib.hid (blk_keep HBX.out hk2 (by simp))
            clear hk2
            obtain ⟨y1, hy1⟩ : ∃ y1, y1 = badB x := ⟨_, rfl⟩
            obtain ⟨y2, hy2⟩ : ∃ y2, y2 = deepB (d + 1) x := ⟨_, rfl⟩
            rw [← hy1, ← hy2]
            have HS1 : Hid ((fl || badL (l.take (j + 1))) = (b1 || y1)) := by show _ = _; rw [HSB.out, HB1.out, hy1, Bool.or_assoc]
            have HS2 : Hid ((decide ((16 : Int) < (d : Int)) || deepL (d + 1) (l.take (j + 1))) = (b2 || y2)) := by show _ = _; rw [HSN.out, HB2.out, hy2, Bool.or_assoc]
            clear hy1 hy2
            go_wp2_with fail
            all_goals go_roundw
            all_goals first
              | (refine ⟨j + 1, ?_, ?_, by go_num, by omega, HK2.out, HBX2.out⟩ <;> first | (rw [HS1.out]; simp_all; done) | (rw [HS2.out]; simp_all; done) | (rw [HS1.out]) | (rw [HS2.out]))
              | (simp [intOf]; omega)
          · obtain rfl : j = lb := by omega
            have htl : l.take j = l := List.take_of_length_le (by have := HL.out; omega)
            rw [htl] at HB1 HB2
            have hbb := HFB.out fl HFL.out
            have hdd : (decide ((16 : Int) < (d : Int)) || deepL (d + 1) l) = deepB d (.mk c n true b l) := by
              unfold deepB
              congr 1
              rw [Bool.eq_iff_iff]; simp; omega
            rw [← HB1.out] at hbb
            rw [← HB2.out] at hdd
            have HBB := Lib.hid hbb
            have HDD := Lib.hid hdd
            clear hbb hdd htl
            go_wp2_with fail
            go_ret2
            exact ⟨by rw [← HBB.out, ← HDD.out]; rfl, HKR.out⟩)

end Go.Proofs.Ytnengckecooohaa
