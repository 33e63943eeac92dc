/- Texts of one proof, laid together: F43. -/
import Derived.Test.YtoggddoeanfjeaaGreatDoorMB2
import Derived.BigQuiet
/- filter: the law's left and light: is a filter light? -/
namespace Go.Proofs.YtoggddoeanfjeaaGreatDoor
open Go.RowKit Go.Shelf
set_option linter.unusedVariables false
set_option linter.unusedSimpArgs false
set_option maxRecDepth 100000

mutual
/-- What is left of a weight behind a filter; below 0: it was too heavy, or is too deep. -/
def leftV : Nat → Int → FV → Int
  | d, r, .mk _ l s v => if 40 < d ∨ r < (l.length : Int) ∨ r < (s.length : Int) ∨ r < (v.length : Int) then -1 else leftVL (d + 1) (r - 1 - (s.length : Int) - (v.length : Int)) l
def leftVL : Nat → Int → List FV → Int
  | _, r, [] => r
  | d, r, t :: rest => if 0 ≤ r then leftVL d (leftV d r t) rest else r
end
theorem leftVL_in (d : Nat) (M : Int) : ∀ (l : List FV) (r : Int), -M ≤ r → (∀ t ∈ l, ∀ q, 0 ≤ q → q ≤ r → -M ≤ leftV d q t ∧ leftV d q t ≤ q) → -M ≤ leftVL d r l ∧ leftVL d r l ≤ r
  | [], r, h, _ => by unfold leftVL; omega
  | t :: rest, r, h, ht => by
    unfold leftVL
    split
    · rename_i h0
      have h1 := ht t (List.mem_cons_self ..) r h0 (Int.le_refl _)
      have h2 := leftVL_in d M rest (leftV d r t) h1.1 (fun x hx q hq hq2 => ht x (List.mem_cons_of_mem _ hx) q hq (by omega))
      omega
    · omega
theorem leftV_in (M : Int) (hM : 4001 ≤ M) : ∀ (t : FV) (d : Nat) (r : Int), 0 ≤ r → r ≤ 4000 → -M ≤ leftV d r t ∧ leftV d r t ≤ r := by
  intro t
  induction t using FV.ind with
  | h k l s v ih =>
    intro d r hr hr4
    unfold leftV
    split
    · omega
    · have h1 := leftVL_in (d + 1) M l (r - 1 - (s.length : Int) - (v.length : Int)) (by omega) (fun t ht q hq hq2 => ih t ht (d + 1) q hq (by omega))
      omega

set_option maxHeartbeats 4000000 in
theorem left8_is : ∀ (t : FV) (d : Nat) (r : Int) (h : FH) (w : World), d ≤ 41 → 0 ≤ r → r ≤ 4000 → FilAt w t h →
    Calls Tryz.prog 27 #[h.val, .int .i64 r, .int .i64 (d : Int)] w fun e w' => e = .returned (.int .i64 (leftV d r t)) ∧ Keeps [] w w' := by
  intro t
  induction t using FV.ind with
  | h k l s v ih =>
    intro d r h w hd hr0 hr1 ht
    have IH := Lib.hid ih
    obtain ⟨rfl, rfl, rfl, h4, h5, h6, h7, h8, h9, h10, h11⟩ := ht
    obtain ⟨k, B, lb, cb, s, v⟩ := h
    have hl : l.length = lb := h8
    have hlb : lb ≤ 9223372036854775807 := Nat.le_trans h9 h10
    dsimp only at h6 h7
    have HEQ : Hid (leftV d r (.mk k l s v) = if 40 < d ∨ r < (lb : Int) ∨ r < (s.length : Int) ∨ r < (v.length : Int) then -1 else leftVL (d + 1) (r - 1 - (s.length : Int) - (v.length : Int)) l) := by show _ = _; rw [← hl]; simp [leftV]
    have HI := Lib.hid h11
    have HL := Lib.hid hl
    have HK : Hid (Keeps [] w (w.alloc (.cells #[.int .i64 k, .slice B lb cb, .string ⟨s.toArray⟩, .string ⟨v.toArray⟩] 25))) := (Keeps.refl [] w).alloc _
    have HB0 := Lib.hid (heap_new8 w (.cells #[.int .i64 k, .slice B lb cb, .string ⟨s.toArray⟩, .string ⟨v.toArray⟩] 25))
    obtain ⟨sl, hsl⟩ : ∃ n, s.length = n := ⟨_, rfl⟩
    obtain ⟨vl, hvl⟩ : ∃ n, v.length = n := ⟨_, rfl⟩
    have hsz : (⟨s.toArray⟩ : ByteArray).size = sl := hsl
    have hvz : (⟨v.toArray⟩ : ByteArray).size = vl := hvl
    rw [hsl, hvl] at HEQ
    rw [hsl] at h6
    rw [hvl] at h7
    have HSV := Lib.hid (And.intro hsl hvl)
    clear h4 h5 h8 h9 h10 h11 hl ih hsl hvl
    unfold FH.val tv
    dsimp only
    by_cases hbad : 40 < d ∨ r < (lb : Int) ∨ r < (sl : Int) ∨ r < (vl : Int)
    · rw [if_pos hbad] at HEQ
      rw [HEQ.out]
      by_cases q1 : (40 : Int) < (d : Int)
      · go_enter Tryz.func27, Tryz.ntmps27
        go_wp2_with fail
        go_ret
        exact ⟨rfl, HK.out⟩
      · by_cases q2 : r < (lb : Int)
        · go_enter Tryz.func27, Tryz.ntmps27
          go_wp2_with fail
          go_ret
          exact ⟨rfl, HK.out⟩
        · by_cases q3 : r < (sl : Int)
          · go_enter Tryz.func27, Tryz.ntmps27
            go_wp2_with fail
            go_ret
            exact ⟨rfl, HK.out⟩
          · have q4 : r < (vl : Int) := by omega
            go_enter Tryz.func27, Tryz.ntmps27
            go_wp2_with fail
            go_ret
            exact ⟨rfl, HK.out⟩
    · rw [if_neg hbad] at HEQ
      have q1 : ¬ (40 : Int) < (d : Int) := by omega
      have q2 : ¬ r < (lb : Int) := by omega
      have q3 : ¬ r < (sl : Int) := by omega
      have q4 : ¬ r < (vl : Int) := by omega
      clear hbad
      go_enter Tryz.func27, Tryz.ntmps27
      go_wp2_with fail
      go_loopw [1, 7] (fun a i wr => ∃ (rr : Int) (j : Nat), a = .int .i64 rr ∧ i = .int .i64 (j : Int) ∧ j ≤ lb ∧ (-10000 ≤ rr ∧ rr ≤ 4000) ∧ Hid (leftVL (d + 1) rr (l.drop j) = leftVL (d + 1) (r - 1 - (sl : Int) - (vl : Int)) l) ∧ Hid (Keeps [] w wr) ∧ Hid (wr.heap[w.heap.size]? = some (.cells #[.int .i64 k, .slice B lb cb, .string ⟨s.toArray⟩, .string ⟨v.toArray⟩] 25 (0, 0)))) (fun _ i _ => lb - (intOf i).toNat)
      case atStart => exact ⟨r - 1 - (sl : Int) - (vl : Int), 0, by go_num, rfl, Nat.zero_le _, by omega, rfl, HK.out, HB0.out⟩
      case round =>
        obtain ⟨rr, j, rfl, rfl, hj, hrr, HS, HKR, HBX⟩ := hrel
        obtain ⟨⟨z0, z1, z2, z3⟩, _⟩ := four_facts8 HBX.out
        by_cases hgo : j < lb ∧ 0 ≤ rr
        · obtain ⟨hlt, ha⟩ := hgo
          have hx : l[j]? = some (l[j]'(by have := HL.out; omega)) := List.getElem?_eq_getElem _
          obtain ⟨b9, o1, hh, rfl, hc, hat⟩ := (FilsAt.grow HKR.out B 0 l HI.out).at_ j _ hx
          rw [Nat.zero_add] at hc
          obtain ⟨g0, g1, g2, g3⟩ := four_at hc
          have hmem : (l[j]'(by have := HL.out; omega)) ∈ l := List.getElem_mem _
          have hdr : l.drop j = l[j]'(by have := HL.out; omega) :: l.drop (j + 1) := List.drop_eq_getElem_cons _
          generalize hxx : l[j]'(by have := HL.out; omega) = x at *
          have HS2 : Hid (leftVL (d + 1) (leftV (d + 1) rr x) (l.drop (j + 1)) = leftVL (d + 1) (r - 1 - (sl : Int) - (vl : Int)) l) := by
            have h9 := HS.out
            rw [hdr, leftVL, if_pos ha] at h9
            exact h9
          have hbnd := leftV_in 10000 (by decide) x (d + 1) rr ha hrr.2
          obtain ⟨k', B', lb', cb', s', v'⟩ := hh
          have HREC : Hid (∀ X, Keeps [] wr X → Calls Tryz.prog 27 #[.agg #[.int .i64 k', .slice B' lb' cb', .string ⟨s'.toArray⟩, .string ⟨v'.toArray⟩], .int .i64 rr, .int .i64 ((d : Int) + 1)] X fun e w' => e = .returned (.int .i64 (leftV (d + 1) rr x)) ∧ Keeps [] X w') := fun X hk => by
            have h9 := IH.out x hmem (d + 1) rr ⟨k', B', lb', cb', s', v'⟩ X (by omega) ha hrr.2 (FilAt.grow hk x _ hat)
            rw [show ((d + 1 : Nat) : Int) = (d : Int) + 1 by omega] at h9
            exact h9
          dsimp only at g0 g1 g2 g3
          clear hx hat hc hdr hxx hmem HS
          go_wp2_with fail
          refine (HREC.out _ (Keeps.refl [] _)).mono ?_
          rintro e w2 ⟨rfl, hk2⟩
          have HK2 := Lib.hid (HKR.out.trans' hk2)
          have HBX2 := Lib.hid (blk_keep HBX.out hk2 (by simp))
          clear hk2
          generalize leftV (d + 1) rr x = sx at *
          go_wp2_with fail
          go_roundw
          case rel => exact ⟨sx, j + 1, rfl, by go_num, by omega, by omega, HS2, HK2.out, HBX2.out⟩
          case measure => simp [intOf]; omega
        · have HE : Hid (leftVL (d + 1) (r - 1 - (sl : Int) - (vl : Int)) l = rr) := by
            have h9 := HS.out
            show _ = _
            rw [← h9]
            by_cases hlt : j < lb
            · rw [List.drop_eq_getElem_cons (by have := HL.out; omega), leftVL, if_neg (fun q => hgo ⟨hlt, q⟩)]
            · rw [List.drop_of_length_le (by have := HL.out; omega), leftVL]
          by_cases hlt : j < lb
          · have ha : ¬ 0 ≤ rr := fun q => hgo ⟨hlt, q⟩
            go_wp2_with fail
            go_ret
            exact ⟨by rw [HEQ.out, HE.out]; rfl, HKR.out⟩
          · go_wp2_with fail
            go_ret
            exact ⟨by rw [HEQ.out, HE.out]; rfl, HKR.out⟩
theorem light8_law (t : FV) (h : FH) (w : World) (ht : FilAt w t h) :
    Calls Tryz.prog 10 #[h.val] w fun e w' => e = .returned (.bool (decide (0 ≤ leftV 1 4000 t))) ∧ Keeps [] w w' := by
  have HF : Hid (∀ X, Keeps [] w X → Calls Tryz.prog 27 #[h.val, .int .i64 4000, .int .i64 1] X fun e w' => e = .returned (.int .i64 (leftV 1 4000 t)) ∧ Keeps [] X w') := fun X hk => left8_is t 1 4000 h X (by omega) (by omega) (by omega) (FilAt.grow hk t h ht)
  obtain ⟨k, B, lb, cb, s, v⟩ := h
  generalize leftV 1 4000 t = z at *
  clear ht
  unfold FH.val tv at *
  dsimp only at *
  have HK : Hid (Keeps [] w (w.alloc (.cells #[.int .i64 k, .slice B lb cb, .string ⟨s.toArray⟩, .string ⟨v.toArray⟩] 25))) := (Keeps.refl [] w).alloc _
  obtain ⟨⟨z0, z1, z2, z3⟩, _⟩ := four_facts8 (heap_new8 w (.cells #[.int .i64 k, .slice B lb cb, .string ⟨s.toArray⟩, .string ⟨v.toArray⟩] 25))
  go_enter Tryz.func10, Tryz.ntmps10
  go_wp2_with fail
  refine (HF.out _ HK.out).mono ?_
  rintro e w1 ⟨rfl, hk1⟩
  have HK1 := Lib.hid (HK.out.trans' hk1)
  clear hk1
  go_wp2_with fail
  go_ret
  exact ⟨rfl, HK1.out⟩
end Go.Proofs.YtoggddoeanfjeaaGreatDoor
