/- Texts of one proof, laid together: E25 E26 E27 E28 E29. -/
import Derived.Test.YtnengckecooohaaM09
/- ber: the document's Size. -/
namespace Go.Proofs.Ytnengckecooohaa
open Go.RowKit Go.Shelf
set_option linter.unusedVariables false
set_option linter.unusedSimpArgs false
set_option maxRecDepth 100000

mutual
/-- How many bytes a value has; more than may be: some such number. -/
def sizeB : BV → Nat
  | .mk _ _ _ b l => 1 + (lenB (sizeL b.length l)).length + sizeL b.length l
def sizeL : Nat → List BV → Nat
  | acc, [] => acc
  | acc, t :: r => if acc ≤ 65536 then sizeL (acc + sizeB t) r else acc
end
mutual
/-- The longest Bytes in a value. -/
def maxB : BV → Nat
  | .mk _ _ _ b l => max b.length (maxL l)
def maxL : List BV → Nat
  | [] => 0
  | t :: r => max (maxB t) (maxL r)
end
theorem maxL_mem : ∀ (l : List BV) (t : BV), t ∈ l → maxB t ≤ maxL l
  | x :: r, t, hm => by
    unfold maxL
    rcases List.mem_cons.1 hm with hm | hm
    · subst hm; exact Nat.le_max_left _ _
    · exact Nat.le_trans (maxL_mem r t hm) (Nat.le_max_right _ _)
theorem sizeL_le (M : Nat) : ∀ (l : List BV) (acc : Nat), (∀ t ∈ l, sizeB t ≤ M) → sizeL acc l ≤ max acc (65536 + M)
  | [], acc, _ => by unfold sizeL; exact Nat.le_max_left _ _
  | t :: r, acc, h => by
    unfold sizeL
    split
    · have h1 := sizeL_le M r (acc + sizeB t) (fun x hx => h x (List.mem_cons_of_mem _ hx))
      have h2 := h t (List.mem_cons_self ..)
      omega
    · omega
theorem sizeB_le : ∀ (t : BV), sizeB t ≤ maxB t + 65546 * hgtB t := by
  intro t
  induction t using BV.ind with
  | h c n k b l ih =>
    have h1 := sizeL_le (maxL l + 65546 * hgtL l) l b.length (fun t ht => by
      have h2 := ih t ht
      have h3 := maxL_mem l t ht
      have h4 := hgtL_mem l t ht
      omega)
    have h5 := (lenB_len (sizeL b.length l)).2
    have e1 : sizeB (.mk c n k b l) = 1 + (lenB (sizeL b.length l)).length + sizeL b.length l := by simp [sizeB]
    have e2 : maxB (.mk c n k b l) = max b.length (maxL l) := by simp [maxB]
    have e3 : hgtB (.mk c n k b l) = hgtL l + 1 := by simp [hgtB]
    rw [e1, e2, e3]
    omega

theorem retI {a b : Int} (h : a = b) : Ending.returned (.int .i64 a) = .returned (.int .i64 b) := by rw [h]

set_option maxHeartbeats 1000000 in
theorem rsize_is : ∀ (t : BV) (h : BH) (w : World), maxB t + 65546 * hgtB t ≤ 4611686018427387904 → BerAt w t h →
    Calls Try.prog 32 #[h.val] w fun e w' => e = .returned (.int .i64 (sizeB t : Int)) ∧ Keeps [] w w' := by
  intro t
  induction t using BV.ind with
  | h c n k b l ih =>
    intro h w hd ht
    have IH := Lib.hid ih
    obtain ⟨rfl, rfl, rfl, h4, h5, h6, h7, h8, h9, h10, h11⟩ := ht
    obtain ⟨c, n, k, A, la, ca, B, lb, cb⟩ := h
    have hl : l.length = lb := h8
    have hla : b.length = la := h6
    have hlb : lb ≤ 9223372036854775807 := Nat.le_trans h9 h10
    have e2 : maxB (.mk c n k b l) = max b.length (maxL l) := by simp [maxB]
    have e3 : hgtB (.mk c n k b l) = hgtL l + 1 := by simp [hgtB]
    have hd' : maxB (.mk c n k b l) + 65546 * hgtB (.mk c n k b l) ≤ 4611686018427387904 := hd
    rw [e2, e3] at hd'
    have HSM : Hid (∀ t ∈ l, maxB t + 65546 * hgtB t ≤ 4611686018427387904 - 65546 ∧ sizeB t ≤ 4611686018427387904 - 65546) := by
      intro t ht
      have h2 := sizeB_le t
      have h3 := maxL_mem l t ht
      have h4 := hgtL_mem l t ht
      omega
    have HEQ : Hid (sizeB (.mk c n k b l) = 1 + (lenB (sizeL la l)).length + sizeL la l) := by show _ = _; rw [← hla]; simp [sizeB]
    have hla2 : la ≤ 4611686018427387904 := by omega
    have HI := Lib.hid h11
    have HL := Lib.hid hl
    have HK : Hid (Keeps [] w (w.alloc (.cells #[.int .u8 (c : Int), .int .u8 (n : Int), .bool k, .slice A la ca, .slice B lb cb] 25))) := (Keeps.refl [] w).alloc _
    clear h4 h5 h6 h7 h8 h9 h10 h11 hl hla hd hd' e2 e3 ih
    unfold BH.val
    go_enter Try.func32, Try.ntmps32
    go_wp2_with fail
    go_loopw [3, 4] (fun a i wr => ∃ (acc j : Nat), a = .int .i64 (acc : Int) ∧ i = .int .i64 (j : Int) ∧ j ≤ lb ∧ acc ≤ 4611686018427387904 ∧ Hid (sizeL acc (l.drop j) = sizeL la l) ∧ Hid (Keeps [] w wr) ∧ Hid (wr.heap[w.heap.size]? = some (.cells #[.int .u8 (c : Int), .int .u8 (n : Int), .bool k, .slice A la ca, .slice B lb cb] 25 (0, 0)))) (fun _ i _ => lb - (intOf i).toNat)
    case atStart => exact ⟨la, 0, rfl, rfl, Nat.zero_le _, hla2, rfl, HK.out, heap_new8 w _⟩
    case round =>
      obtain ⟨acc, j, rfl, rfl, hj, hacc, HS, HKR, HBX⟩ := hrel
      obtain ⟨⟨z0, z1, z2, z3, z4⟩, _⟩ := five_facts HBX.out
      by_cases hgo : j < lb ∧ acc ≤ 65536
      · obtain ⟨hlt, ha⟩ := hgo
        have hx : l[j]? = some (l[j]'(by have := HL.out; omega)) := List.getElem?_eq_getElem _
        obtain ⟨b9, o1, hh, rfl, hc, hat⟩ := (ItemsAt.grow HKR.out B 0 l HI.out).at_ j _ hx
        rw [Nat.zero_add] at hc
        obtain ⟨g0, g1, g2, g3, g4⟩ := five_at hc
        have hmem : (l[j]'(by have := HL.out; omega)) ∈ l := List.getElem_mem _
        have hdr : l.drop j = l[j]'(by have := HL.out; omega) :: l.drop (j + 1) := List.drop_eq_getElem_cons _
        generalize hxx : l[j]'(by have := HL.out; omega) = x at *
        obtain ⟨hm1, hm2⟩ := HSM.out x hmem
        have HS2 : Hid (sizeL (acc + sizeB x) (l.drop (j + 1)) = sizeL la l) := by
          have h9 := HS.out
          rw [hdr, sizeL, if_pos ha] at h9
          exact h9
        obtain ⟨c', n', k', A', la', ca', B', lb', cb'⟩ := hh
        have HREC : Hid (∀ X, Keeps [] wr X → Calls Try.prog 32 #[.agg #[.int .u8 (c' : Int), .int .u8 (n' : Int), .bool k', .slice A' la' ca', .slice B' lb' cb']] X fun e w' => e = .returned (.int .i64 (sizeB x : Int)) ∧ Keeps [] X w') := fun X hk => IH.out x hmem ⟨c', n', k', A', la', ca', B', lb', cb'⟩ X (by omega) (BerAt.grow hk x _ hat)
        clear hx hat hc hdr hxx hmem hm1 HS
        go_wp2_with fail
        refine (HREC.out _ (Keeps.refl [] _)).mono ?_
        rintro e w2 ⟨rfl, hk2⟩
        have HK2 := Lib.hid (HKR.out.trans' hk2)
        have HBX2 := Lib.hid (blk_keep HBX.out hk2 (by simp))
        clear hk2
        generalize sizeB x = sx at *
        go_wp2_with fail
        go_roundw
        case rel => exact ⟨acc + sx, j + 1, by go_num, by go_num, by omega, by omega, HS2, HK2.out, HBX2.out⟩
        case measure => simp [intOf]; omega
      · have HE : Hid (sizeL la l = acc) := by
          have h9 := HS.out
          show _ = _
          rw [← h9]
          by_cases hlt : j < lb
          · rw [List.drop_eq_getElem_cons (by have := HL.out; omega), sizeL, if_neg (fun q => hgo ⟨hlt, q⟩)]
          · rw [List.drop_of_length_le (by have := HL.out; omega), sizeL]
        have HM := Lib.hid (fun X => many_is acc X (by omega))
        have HLN := Lib.hid (lenB_len acc).2
        have hln : (lenB acc).length ≤ 9 := HLN.out
        rw [HE.out] at HEQ
        generalize hln2 : (lenB acc).length = nl at *
        clear hln2 HE HS
        by_cases hlt : j < lb
        · have ha : ¬ acc ≤ 65536 := fun q => hgo ⟨hlt, q⟩
          go_wp2_with fail
          refine (HM.out _).mono ?_
          rintro e w2 ⟨rfl, rfl⟩
          go_wp2_with fail
          go_ret
          exact ⟨by rw [HEQ.out]; exact retI (by omega), HKR.out⟩
        · go_wp2_with fail
          refine (HM.out _).mono ?_
          rintro e w2 ⟨rfl, rfl⟩
          go_wp2_with fail
          go_ret
          exact ⟨by rw [HEQ.out]; exact retI (by omega), HKR.out⟩

end Go.Proofs.Ytnengckecooohaa
/- ber: the document's Check. -/
namespace Go.Proofs.Ytnengckecooohaa
open Go.RowKit Go.Shelf
set_option linter.unusedVariables false
set_option linter.unusedSimpArgs false
set_option maxRecDepth 100000

/-- May a value be? -/
def checkB (t : BV) : Int := if badB t then 2 else if deepB 1 t then 150 else if 65536 < sizeB t then 3 else 0

theorem rcheck_is (t : BV) (h : BH) (w : World) (hb : maxB t + 65546 * hgtB t ≤ 4611686018427380000) (ht : BerAt w t h) :
    Calls Try.prog 13 #[h.val] w fun e w' => e = .returned (.int .i64 (checkB t)) ∧ Keeps [] w w' := by
  have HF : Hid (∀ X, Keeps [] w X → Calls Try.prog 38 #[h.val, .int .i64 1] X fun e w' => e = .returned (.tuple #[.bool (badB t), .bool (deepB 1 t)]) ∧ Keeps [] X w') := fun X hk => rflaws_is t 1 h X (by omega) (BerAt.grow hk t h ht)
  have HS : Hid (∀ X, Keeps [] w X → Calls Try.prog 32 #[h.val] X fun e w' => e = .returned (.int .i64 (sizeB t : Int)) ∧ Keeps [] X w') := fun X hk => rsize_is t h X (by omega) (BerAt.grow hk t h ht)
  have HC : Hid (checkB t = if badB t then 2 else if deepB 1 t then 150 else if 65536 < sizeB t then 3 else 0) := rfl
  have hz := sizeB_le t
  have hz2 : sizeB t ≤ 4611686018427387904 := by omega
  obtain ⟨c, n, k, A, la, ca, B, lb, cb⟩ := h
  generalize badB t = b1 at *
  generalize deepB 1 t = b2 at *
  generalize sizeB t = sz at *
  generalize checkB t = ch at *
  clear ht hb hz
  unfold BH.val at *
  have HK : Hid (Keeps [] w (w.alloc (.cells #[.int .u8 (c : Int), .int .u8 (n : Int), .bool k, .slice A la ca, .slice B lb cb] 25))) := (Keeps.refl [] w).alloc _
  go_enter Try.func13, Try.ntmps13
  go_wp2_with fail
  refine (HF.out _ HK.out).mono ?_
  rintro e w1 ⟨rfl, hk1⟩
  have HBX : Hid (w1.heap[w.heap.size]? = some (.cells #[.int .u8 (c : Int), .int .u8 (n : Int), .bool k, .slice A la ca, .slice B lb cb] 25 (0, 0))) := blk_keep (heap_new8 w _) hk1 (by simp)
  have HK1 := Lib.hid (HK.out.trans' hk1)
  obtain ⟨⟨z0, z1, z2, z3, z4⟩, _⟩ := five_facts HBX.out
  clear hk1
  cases b1
  · cases b2
    · go_wp2_with fail
      refine (HS.out _ HK1.out).mono ?_
      rintro e w2 ⟨rfl, hk2⟩
      have HK2 := Lib.hid (HK1.out.trans' hk2)
      clear hk2
      by_cases hsz : (65536 : Int) < (sz : Int)
      · go_wp2_with fail
        go_ret
        exact ⟨by rw [HC.out]; simp; omega, HK2.out⟩
      · go_wp2_with fail
        go_ret
        exact ⟨by rw [HC.out]; simp; omega, HK2.out⟩
    · go_wp2_with fail
      go_ret
      exact ⟨by rw [HC.out]; rfl, HK1.out⟩
  · go_wp2_with fail
    go_ret
    exact ⟨by rw [HC.out]; rfl, HK1.out⟩

end Go.Proofs.Ytnengckecooohaa
/- ber: the law's left: is a value light? -/
namespace Go.Proofs.Ytnengckecooohaa
open Go.RowKit Go.Shelf
set_option linter.unusedVariables false
set_option linter.unusedSimpArgs false
set_option maxRecDepth 100000

mutual
/-- What is left of a room behind a value; below 0: it was too little, or the value is too deep. -/
def leftB : Nat → Int → BV → Int
  | d, r, .mk _ _ _ b l => if 40 < d ∨ r < (b.length : Int) ∨ r < (l.length : Int) then -1 else leftL (d + 1) (r - 1 - (b.length : Int)) l
def leftL : Nat → Int → List BV → Int
  | _, r, [] => r
  | d, r, t :: rest => if 0 ≤ r then leftL d (leftB d r t) rest else r
end
theorem leftL_in (d : Nat) : ∀ (l : List BV) (r : Int), -1 ≤ r → (∀ t ∈ l, ∀ q, 0 ≤ q → -1 ≤ leftB d q t ∧ leftB d q t ≤ q) → -1 ≤ leftL d r l ∧ leftL d r l ≤ r
  | [], r, h, _ => by unfold leftL; omega
  | t :: rest, r, h, ht => by
    unfold leftL
    split
    · rename_i h0
      have h1 := ht t (List.mem_cons_self ..) r h0
      have h2 := leftL_in d rest (leftB d r t) h1.1 (fun x hx => ht x (List.mem_cons_of_mem _ hx))
      omega
    · omega
theorem leftB_in : ∀ (t : BV) (d : Nat) (r : Int), 0 ≤ r → -1 ≤ leftB d r t ∧ leftB d r t ≤ r := by
  intro t
  induction t using BV.ind with
  | h c n k b l ih =>
    intro d r hr
    unfold leftB
    split
    · omega
    · have h1 := leftL_in (d + 1) l (r - 1 - (b.length : Int)) (by omega) (fun t ht q hq => ih t ht (d + 1) q hq)
      omega

set_option maxHeartbeats 1000000 in
theorem left_is : ∀ (t : BV) (d : Nat) (r : Int) (h : BH) (w : World), d ≤ 41 → 0 ≤ r → r ≤ 2000 → BerAt w t h →
    Calls Try.prog 26 #[h.val, .int .i64 r, .int .i64 (d : Int)] w fun e w' => e = .returned (.int .i64 (leftB d r t)) ∧ Keeps [] w w' := by
  intro t
  induction t using BV.ind with
  | h c n k b l ih =>
    intro d r h w hd hr0 hr1 ht
    have IH := Lib.hid ih
    obtain ⟨rfl, rfl, rfl, h4, h5, h6, h7, h8, h9, h10, h11⟩ := ht
    obtain ⟨c, n, k, A, la, ca, B, lb, cb⟩ := h
    have hl : l.length = lb := h8
    have hla : b.length = la := h6
    have hlb : lb ≤ 9223372036854775807 := Nat.le_trans h9 h10
    have hlab : la ≤ 9223372036854775807 := by
      obtain ⟨A', c', he, q1, q2, _⟩ := h7
      injection he with _ e2 _
      have e2' : la = b.length := e2
      have q2' : c' ≤ maxLen := q2
      unfold maxLen at q2'
      omega
    have HEQ : Hid (leftB d r (.mk c n k b l) = if 40 < d ∨ r < (la : Int) ∨ r < (lb : Int) then -1 else leftL (d + 1) (r - 1 - (la : Int)) l) := by show _ = _; rw [← hla, ← hl]; simp [leftB]
    have HI := Lib.hid h11
    have HL := Lib.hid hl
    have HK : Hid (Keeps [] w (w.alloc (.cells #[.int .u8 (c : Int), .int .u8 (n : Int), .bool k, .slice A la ca, .slice B lb cb] 25))) := (Keeps.refl [] w).alloc _
    clear h4 h5 h6 h7 h8 h9 h10 h11 hl hla ih
    unfold BH.val
    by_cases hbad : 40 < d ∨ r < (la : Int) ∨ r < (lb : Int)
    · rw [if_pos hbad] at HEQ
      rw [HEQ.out]
      by_cases q1 : (40 : Int) < (d : Int)
      · go_enter Try.func26, Try.ntmps26
        go_wp2_with fail
        go_ret
        exact ⟨rfl, HK.out⟩
      · by_cases q2 : r < (la : Int)
        · go_enter Try.func26, Try.ntmps26
          go_wp2_with fail
          go_ret
          exact ⟨rfl, HK.out⟩
        · have q3 : r < (lb : Int) := by omega
          go_enter Try.func26, Try.ntmps26
          go_wp2_with fail
          go_ret
          exact ⟨rfl, HK.out⟩
    · rw [if_neg hbad] at HEQ
      have q1 : ¬ (40 : Int) < (d : Int) := by omega
      have q2 : ¬ r < (la : Int) := by omega
      have q3 : ¬ r < (lb : Int) := by omega
      clear hbad
      go_enter Try.func26, Try.ntmps26
      go_wp2_with fail
      go_loopw [1, 7] (fun a i wr => ∃ (rr : Int) (j : Nat), a = .int .i64 rr ∧ i = .int .i64 (j : Int) ∧ j ≤ lb ∧ (-1 ≤ rr ∧ rr ≤ 2000) ∧ Hid (leftL (d + 1) rr (l.drop j) = leftL (d + 1) (r - 1 - (la : Int)) l) ∧ Hid (Keeps [] w wr) ∧ Hid (wr.heap[w.heap.size]? = some (.cells #[.int .u8 (c : Int), .int .u8 (n : Int), .bool k, .slice A la ca, .slice B lb cb] 25 (0, 0)))) (fun _ i _ => lb - (intOf i).toNat)
      case atStart => exact ⟨r - 1 - (la : Int), 0, by go_num, rfl, Nat.zero_le _, by omega, rfl, HK.out, heap_new8 w _⟩
      case round =>
        obtain ⟨rr, j, rfl, rfl, hj, hrr, HS, HKR, HBX⟩ := hrel
        obtain ⟨⟨z0, z1, z2, z3, z4⟩, _⟩ := five_facts HBX.out
        by_cases hgo : j < lb ∧ 0 ≤ rr
        · obtain ⟨hlt, ha⟩ := hgo
          have hx : l[j]? = some (l[j]'(by have := HL.out; omega)) := List.getElem?_eq_getElem _
          obtain ⟨b9, o1, hh, rfl, hc, hat⟩ := (ItemsAt.grow HKR.out B 0 l HI.out).at_ j _ hx
          rw [Nat.zero_add] at hc
          obtain ⟨g0, g1, g2, g3, g4⟩ := five_at hc
          have hmem : (l[j]'(by have := HL.out; omega)) ∈ l := List.getElem_mem _
          have hdr : l.drop j = l[j]'(by have := HL.out; omega) :: l.drop (j + 1) := List.drop_eq_getElem_cons _
          generalize hxx : l[j]'(by have := HL.out; omega) = x at *
          have HS2 : Hid (leftL (d + 1) (leftB (d + 1) rr x) (l.drop (j + 1)) = leftL (d + 1) (r - 1 - (la : Int)) l) := by
            have h9 := HS.out
            rw [hdr, leftL, if_pos ha] at h9
            exact h9
          have hbnd := leftB_in x (d + 1) rr ha
          obtain ⟨c', n', k', A', la', ca', B', lb', cb'⟩ := hh
          have HREC : Hid (∀ X, Keeps [] wr X → Calls Try.prog 26 #[.agg #[.int .u8 (c' : Int), .int .u8 (n' : Int), .bool k', .slice A' la' ca', .slice B' lb' cb'], .int .i64 rr, .int .i64 ((d : Int) + 1)] X fun e w' => e = .returned (.int .i64 (leftB (d + 1) rr x)) ∧ Keeps [] X w') := fun X hk => by
            have h9 := IH.out x hmem (d + 1) rr ⟨c', n', k', A', la', ca', B', lb', cb'⟩ X (by omega) ha hrr.2 (BerAt.grow hk x _ hat)
            rw [show ((d + 1 : Nat) : Int) = (d : Int) + 1 by omega] at h9
            exact h9
          clear hx hat hc hdr hxx hmem HS
          go_wp2_with fail
          refine (HREC.out _ (Keeps.refl [] _)).mono ?_
          rintro e w2 ⟨rfl, hk2⟩
          have HK2 := Lib.hid (HKR.out.trans' hk2)
          have HBX2 := Lib.hid (blk_keep HBX.out hk2 (by simp))
          clear hk2
          generalize leftB (d + 1) rr x = sx at *
          go_wp2_with fail
          go_roundw
          case rel => exact ⟨sx, j + 1, rfl, by go_num, by omega, by omega, HS2, HK2.out, HBX2.out⟩
          case measure => simp [intOf]; omega
        · have HE : Hid (leftL (d + 1) (r - 1 - (la : Int)) l = rr) := by
            have h9 := HS.out
            show _ = _
            rw [← h9]
            by_cases hlt : j < lb
            · rw [List.drop_eq_getElem_cons (by have := HL.out; omega), leftL, if_neg (fun q => hgo ⟨hlt, q⟩)]
            · rw [List.drop_of_length_le (by have := HL.out; omega), leftL]
          by_cases hlt : j < lb
          · have ha : ¬ 0 ≤ rr := fun q => hgo ⟨hlt, q⟩
            go_wp2_with fail
            go_ret
            exact ⟨by rw [HEQ.out, HE.out]; rfl, HKR.out⟩
          · go_wp2_with fail
            go_ret
            exact ⟨by rw [HEQ.out, HE.out]; rfl, HKR.out⟩

end Go.Proofs.Ytnengckecooohaa
/- ber: the law's light. -/
namespace Go.Proofs.Ytnengckecooohaa
open Go.RowKit Go.Shelf
set_option linter.unusedVariables false
set_option linter.unusedSimpArgs false
set_option maxRecDepth 100000

theorem light_is (t : BV) (h : BH) (w : World) (ht : BerAt w t h) :
    Calls Try.prog 10 #[h.val] w fun e w' => e = .returned (.bool (decide (0 ≤ leftB 1 2000 t))) ∧ Keeps [] w w' := by
  have HF : Hid (∀ X, Keeps [] w X → Calls Try.prog 26 #[h.val, .int .i64 2000, .int .i64 1] X fun e w' => e = .returned (.int .i64 (leftB 1 2000 t)) ∧ Keeps [] X w') := fun X hk => left_is t 1 2000 h X (by omega) (by omega) (by omega) (BerAt.grow hk t h ht)
  obtain ⟨c, n, k, A, la, ca, B, lb, cb⟩ := h
  generalize leftB 1 2000 t = z at *
  clear ht
  unfold BH.val at *
  have HK : Hid (Keeps [] w (w.alloc (.cells #[.int .u8 (c : Int), .int .u8 (n : Int), .bool k, .slice A la ca, .slice B lb cb] 25))) := (Keeps.refl [] w).alloc _
  go_enter Try.func10, Try.ntmps10
  go_wp2_with fail
  refine (HF.out _ HK.out).mono ?_
  rintro e w1 ⟨rfl, hk1⟩
  have HK1 := Lib.hid (HK.out.trans' hk1)
  clear hk1
  go_wp2_with fail
  go_ret
  exact ⟨rfl, HK1.out⟩

/-- A light value: how high, how long. -/
theorem leftL_at (d : Nat) : ∀ (l : List BV) (r : Int), -1 ≤ r → 0 ≤ leftL d r l → ∀ t ∈ l, ∃ q, 0 ≤ q ∧ q ≤ r ∧ 0 ≤ leftB d q t
  | x :: rest, r, h, h0, t, ht => by
    unfold leftL at h0
    split at h0
    · rename_i hr
      have h1 := leftB_in x d r hr
      have h2 := leftL_in d rest (leftB d r x) h1.1 (fun y _ q hq => leftB_in y d q hq)
      rcases List.mem_cons.1 ht with ht | ht
      · subst ht; exact ⟨r, hr, Int.le_refl _, by omega⟩
      · obtain ⟨q, q1, q2, q3⟩ := leftL_at d rest (leftB d r x) h1.1 h0 t ht
        exact ⟨q, q1, by omega, q3⟩
    · omega
theorem hgtL_le (M : Nat) : ∀ (l : List BV), (∀ t ∈ l, hgtB t ≤ M) → hgtL l ≤ M
  | [], _ => by unfold hgtL; omega
  | x :: r, h => by
    unfold hgtL
    have h1 := h x (List.mem_cons_self ..)
    have h2 := hgtL_le M r (fun t ht => h t (List.mem_cons_of_mem _ ht))
    omega
theorem maxL_le (M : Nat) : ∀ (l : List BV), (∀ t ∈ l, maxB t ≤ M) → maxL l ≤ M
  | [], _ => by unfold maxL; omega
  | x :: r, h => by
    unfold maxL
    have h1 := h x (List.mem_cons_self ..)
    have h2 := maxL_le M r (fun t ht => h t (List.mem_cons_of_mem _ ht))
    omega
theorem light_bounds : ∀ (t : BV) (d : Nat) (r : Int), 0 ≤ r → r ≤ 2000 → d ≤ 41 → 0 ≤ leftB d r t → hgtB t + d ≤ 41 ∧ maxB t ≤ 2000 := by
  intro t
  induction t using BV.ind with
  | h c n k b l ih =>
    intro d r h0 h1 hd h
    unfold leftB at h
    split at h
    · omega
    · rename_i hb
      have e2 : maxB (.mk c n k b l) = max b.length (maxL l) := by simp [maxB]
      have e3 : hgtB (.mk c n k b l) = hgtL l + 1 := by simp [hgtB]
      have hall : ∀ t ∈ l, hgtB t + (d + 1) ≤ 41 ∧ maxB t ≤ 2000 := fun t ht => by
        obtain ⟨q, q1, q2, q3⟩ := leftL_at (d + 1) l _ (by omega) h t ht
        exact ih t ht (d + 1) q q1 (by omega) (by omega) q3
      have a1 := hgtL_le (40 - d) l (fun t ht => by have := (hall t ht).1; omega)
      have a2 := maxL_le 2000 l (fun t ht => (hall t ht).2)
      rw [e2, e3]
      omega

end Go.Proofs.Ytnengckecooohaa
/- ber: the document's Same. -/
namespace Go.Proofs.Ytnengckecooohaa
open Go.RowKit Go.Shelf
set_option linter.unusedVariables false
set_option linter.unusedSimpArgs false
set_option maxRecDepth 100000

mutual
/-- Are two values the same? -/
def sameB : BV → BV → Bool
  | .mk c n k b l, .mk c' n' k' b' l' => (c == c' && (n == n' && (k == k' && (b == b' && l.length == l'.length)))) && sameL l l'
def sameL : List BV → List BV → Bool
  | x :: r, y :: s => sameB x y && sameL r s
  | _, _ => true
end

set_option maxHeartbeats 2000000 in
theorem rsame_step (c n : Nat) (k : Bool) (A B : Option Addr) (la ca lb cb : Nat) (b : List UInt8) (c' n' : Nat) (k' : Bool) (A' B' : Option Addr) (la' ca' lb' cb' : Nat) (b' : List UInt8) (w : World)
    (hb : BytesAt w (.slice A la ca) b) (hb' : BytesAt w (.slice A' la' ca') b') (hlb : lb ≤ 9223372036854775807) (hlb' : lb' ≤ 9223372036854775807)
    (hd : ¬ (c = c' ∧ n = n' ∧ k = k' ∧ b = b' ∧ lb = lb')) :
    Calls Try.prog 17 #[.agg #[.int .u8 (c : Int), .int .u8 (n : Int), .bool k, .slice A la ca, .slice B lb cb], .agg #[.int .u8 (c' : Int), .int .u8 (n' : Int), .bool k', .slice A' la' ca', .slice B' lb' cb']] w fun e w' => e = .returned (.bool false) ∧ Keeps [] w w' := by
  have HK : Hid (∀ o1 o2, Keeps [] w ((w.alloc o1).alloc o2)) := fun o1 o2 => ((Keeps.refl [] w).alloc o1).alloc o2
  have hc1 := fun o1 o2 => conv_bytes (hb.grow (HK.out o1 o2))
  have hc2 := fun o1 o2 => conv_bytes (hb'.grow (HK.out o1 o2))
  clear hb hb'
  by_cases h1 : (c : Int) = (c' : Int)
  · by_cases h2 : (n : Int) = (n' : Int)
    · by_cases h3 : k = k'
      · subst h3
        by_cases h4 : b = b'
        · subst h4
          have h5 : ¬ (lb : Int) = (lb' : Int) := fun q => hd ⟨by omega, by omega, rfl, rfl, by omega⟩
          go_enter Try.func17, Try.ntmps17
          go_wp2_with fail
          go_ret
          exact ⟨rfl, HK.out _ _⟩
        · have h5 : (b == b') = false := by rw [beq_eq_false_iff_ne]; exact h4
          go_enter Try.func17, Try.ntmps17
          go_wp2_with fail
          go_ret
          exact ⟨rfl, HK.out _ _⟩
      · go_enter Try.func17, Try.ntmps17
        go_wp2_with fail
        go_ret
        exact ⟨rfl, HK.out _ _⟩
    · go_enter Try.func17, Try.ntmps17
      go_wp2_with fail
      go_ret
      exact ⟨rfl, HK.out _ _⟩
  · go_enter Try.func17, Try.ntmps17
    go_wp2_with fail
    go_ret
    exact ⟨rfl, HK.out _ _⟩

end Go.Proofs.Ytnengckecooohaa
