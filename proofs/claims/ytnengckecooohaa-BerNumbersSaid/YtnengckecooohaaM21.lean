/- Texts of one proof, laid together: T6 T7 T8. -/
import Derived.Test.YtnengckecooohaaM10
import Derived.Test.YtnengckecooohaaM20
import Derived.Test.YtnengckecooohaaM19
/- ber: the document's Same of any two trees. -/
namespace Go.Proofs.Ytnengckecooohaa
open Go.RowKit Go.Shelf
set_option linter.unusedVariables false
set_option linter.unusedSimpArgs false
set_option maxRecDepth 100000

theorem sameL_append : ∀ (p q r s : List BV), p.length = r.length → sameL (p ++ q) (r ++ s) = (sameL p r && sameL q s)
  | [], q, [], s, _ => by simp [sameL]
  | x :: p, q, y :: r, s, h => by
    simp only [List.cons_append, sameL]
    rw [sameL_append p q r s (by simpa using h), Bool.and_assoc]
  | [], _, _ :: _, _, h => by simp at h
  | _ :: _, _, [], _, h => by simp at h

/-- What stands at j is told: the rounds so far and this one. -/
theorem sameL_at {l l' : List BV} {j : Nat} {x y : BV} (hx : l[j]? = some x) (hy : l'[j]? = some y) :
    sameL (l.take (j + 1)) (l'.take (j + 1)) = (sameL (l.take j) (l'.take j) && sameB x y) := by
  have h1 : j < l.length := by
    rcases Nat.lt_or_ge j l.length with h | h
    · exact h
    · rw [List.getElem?_eq_none h] at hx; cases hx
  have h2 : j < l'.length := by
    rcases Nat.lt_or_ge j l'.length with h | h
    · exact h
    · rw [List.getElem?_eq_none h] at hy; cases hy
  have e1 : l.take (j + 1) = l.take j ++ [x] := by
    rw [List.take_add_one, hx]; rfl
  have e2 : l'.take (j + 1) = l'.take j ++ [y] := by
    rw [List.take_add_one, hy]; rfl
  rw [e1, e2, sameL_append _ _ _ _ (by simp; omega)]
  simp [sameL]

theorem sameL_cut {l l' : List BV} {j : Nat} {x y : BV} (hx : l[j]? = some x) (hy : l'[j]? = some y) (hn : sameB x y = false) (hl : l.length = l'.length) : sameL l l' = false := by
  have h1 := sameL_at hx hy
  rw [hn, Bool.and_false] at h1
  have h2 := sameL_append (l.take (j + 1)) (l.drop (j + 1)) (l'.take (j + 1)) (l'.drop (j + 1)) (by simp; omega)
  rw [List.take_append_drop, List.take_append_drop, h1, Bool.false_and] at h2
  exact h2

theorem sameB_false {c n : Nat} {k : Bool} {b : List UInt8} {l l' : List BV} (h : sameL l l' = false) : sameB (.mk c n k b l) (.mk c n k b l') = false := by
  unfold sameB
  rw [h, Bool.and_false]
theorem sameB_true {c n : Nat} {k : Bool} {b : List UInt8} {l l' : List BV} (hl : l.length = l'.length) (h : sameL l l' = true) : sameB (.mk c n k b l) (.mk c n k b l') = true := by
  unfold sameB
  rw [h, hl]
  simp

theorem two_boxes (w : World) (o1 o2 : Obj) : ((w.alloc o1).alloc o2).heap[w.heap.size]? = some o1 ∧ ((w.alloc o1).alloc o2).heap[w.heap.size + 1]? = some o2 := by
  refine ⟨blk_keep (heap_new8 w o1) ((Keeps.refl [] _).alloc o2) (by simp), ?_⟩
  have h := heap_new8 (w.alloc o1) o2
  rwa [show (w.alloc o1).heap.size = w.heap.size + 1 by show (w.heap.push o1).size = _; simp] at h

set_option maxHeartbeats 4000000 in
theorem rsame_is : ∀ (t t' : BV) (h h' : BH) (w : World), BerAt w t h → BerAt w t' h' →
    Calls Try.prog 17 #[h.val, h'.val] w fun e w' => e = .returned (.bool (sameB t t')) ∧ Keeps [] w w' := by
  intro t
  induction t using BV.ind with
  | h c n k b l ih =>
    intro t' h h' w ht ht'
    obtain ⟨c', n', k', b', l'⟩ := t'
    have IH := Lib.hid ih
    obtain ⟨rfl, rfl, rfl, h4, h5, h6, h7, h8, h9, h10, h11⟩ := ht
    obtain ⟨rfl, rfl, rfl, i4, i5, i6, i7, i8, i9, i10, i11⟩ := ht'
    obtain ⟨c, n, k, A, la, ca, B, lb, cb⟩ := h
    obtain ⟨c', n', k', A', la', ca', B', lb', cb'⟩ := h'
    have hl : l.length = lb := h8
    have hl' : l'.length = lb' := i8
    have hlb : lb ≤ 9223372036854775807 := Nat.le_trans h9 h10
    have hlb' : lb' ≤ 9223372036854775807 := Nat.le_trans i9 i10
    by_cases hd : c = c' ∧ n = n' ∧ k = k' ∧ b = b' ∧ lb = lb'
    · obtain ⟨rfl, rfl, rfl, rfl, rfl⟩ := hd
      have HI := Lib.hid h11
      have HI' := Lib.hid i11
      have HL := Lib.hid hl
      have HL' := Lib.hid hl'
      have HK : Hid (∀ o1 o2, Keeps [] w ((w.alloc o1).alloc o2)) := fun o1 o2 => ((Keeps.refl [] w).alloc o1).alloc o2
      have hc1 := fun o1 o2 => conv_bytes (h7.grow (HK.out o1 o2))
      have hc2 := fun o1 o2 => conv_bytes (i7.grow (HK.out o1 o2))
      clear h4 h5 h6 h7 h8 h9 h10 h11 i4 i5 i6 i7 i8 i9 i10 i11 hl hl' hlb' ih
      unfold BH.val
      go_enter Try.func17, Try.ntmps17
      go_wp2_with fail
      go_loopw [5] (fun i wr => ∃ j : Nat, i = .int .i64 (j : Int) ∧ j ≤ lb ∧ Hid (sameL (l.take j) (l'.take j) = true) ∧ Hid (Keeps [] w wr) ∧ Hid (wr.heap[w.heap.size]? = some (.cells #[.int .u8 (c : Int), .int .u8 (n : Int), .bool k, .slice A la ca, .slice B lb cb] 25 (0, 0))) ∧ Hid (wr.heap[w.heap.size + 1]? = some (.cells #[.int .u8 (c : Int), .int .u8 (n : Int), .bool k, .slice A' la' ca', .slice B' lb cb'] 25 (0, 0)))) (fun i _ => lb - (intOf i).toNat)
      · exact ⟨0, rfl, Nat.zero_le _, by show _ = _; simp [sameL], HK.out _ _, (two_boxes w _ _).1, (two_boxes w _ _).2⟩
      · obtain ⟨j, rfl, hj, HS, HKR, HBX, HBY⟩ := hrel
        obtain ⟨⟨z0, z1, z2, z3, z4⟩, _⟩ := five_facts HBX.out
        obtain ⟨⟨y0, y1, y2, y3, y4⟩, _⟩ := five_facts HBY.out
        by_cases hlt : j < lb
        · have hx : l[j]? = some (l[j]'(by have := HL.out; omega)) := List.getElem?_eq_getElem _
          have hx' : l'[j]? = some (l'[j]'(by have := HL'.out; omega)) := List.getElem?_eq_getElem _
          obtain ⟨b9, o1, hh, rfl, hc, hat⟩ := (ItemsAt.grow HKR.out B 0 l HI.out).at_ j _ hx
          obtain ⟨b8, o2, hh', rfl, hc', hat'⟩ := (ItemsAt.grow HKR.out B' 0 l' HI'.out).at_ j _ hx'
          rw [Nat.zero_add] at hc hc'
          obtain ⟨g0, g1, g2, g3, g4⟩ := five_at hc
          obtain ⟨f0, f1, f2, f3, f4⟩ := five_at hc'
          have hmem : (l[j]'(by have := HL.out; omega)) ∈ l := List.getElem_mem _
          have HX := Lib.hid hx
          have HX' := Lib.hid hx'
          clear hx hx' hc hc'
          generalize hxx : l[j]'(by have := HL.out; omega) = x at *
          generalize hyy : l'[j]'(by have := HL'.out; omega) = y at *
          obtain ⟨c1, n1, k1, A1, la1, ca1, B1, lb1, cb1⟩ := hh
          obtain ⟨c2, n2, k2, A2, la2, ca2, B2, lb2, cb2⟩ := hh'
          have HREC : Hid (∀ X, Keeps [] wr X → Calls Try.prog 17 #[.agg #[.int .u8 (c1 : Int), .int .u8 (n1 : Int), .bool k1, .slice A1 la1 ca1, .slice B1 lb1 cb1], .agg #[.int .u8 (c2 : Int), .int .u8 (n2 : Int), .bool k2, .slice A2 la2 ca2, .slice B2 lb2 cb2]] X fun e w' => e = .returned (.bool (sameB x y)) ∧ Keeps [] X w') := fun X hk =>
            IH.out x hmem y ⟨c1, n1, k1, A1, la1, ca1, B1, lb1, cb1⟩ ⟨c2, n2, k2, A2, la2, ca2, B2, lb2, cb2⟩ X (BerAt.grow hk x _ hat) (BerAt.grow hk y _ hat')
          have HSN := Lib.hid (sameL_at HX.out HX'.out)
          obtain ⟨b1, hb1⟩ : ∃ b1, b1 = sameB x y := ⟨_, rfl⟩
          have HB1 := Lib.hid hb1
          rw [← hb1] at HREC
          have hw : wrap64 ((j : Int) + 1) = (j : Int) + 1 := by unfold wrap64; omega
          clear hat hat' hxx hyy hmem hb1
          go_wp2_with fail
          have HALL : Hid (∀ X, Keeps [] wr X → (X.cell? ⟨w.heap.size, 4, none⟩ = some (.slice (some ⟨b9, o1, none⟩) lb cb) ∧ X.cell? ⟨w.heap.size + 1, 4, none⟩ = some (.slice (some ⟨b8, o2, none⟩) lb cb')) ∧ (X.cell? ⟨b9, o1 + j * 5, none⟩ = some (.int .u8 (c1 : Int)) ∧ X.cell? ⟨b9, o1 + j * 5 + 1, none⟩ = some (.int .u8 (n1 : Int)) ∧ X.cell? ⟨b9, o1 + j * 5 + 2, none⟩ = some (.bool k1) ∧ X.cell? ⟨b9, o1 + j * 5 + 3, none⟩ = some (.slice A1 la1 ca1) ∧ X.cell? ⟨b9, o1 + j * 5 + 4, none⟩ = some (.slice B1 lb1 cb1)) ∧ (X.cell? ⟨b8, o2 + j * 5, none⟩ = some (.int .u8 (c2 : Int)) ∧ X.cell? ⟨b8, o2 + j * 5 + 1, none⟩ = some (.int .u8 (n2 : Int)) ∧ X.cell? ⟨b8, o2 + j * 5 + 2, none⟩ = some (.bool k2) ∧ X.cell? ⟨b8, o2 + j * 5 + 3, none⟩ = some (.slice A2 la2 ca2) ∧ X.cell? ⟨b8, o2 + j * 5 + 4, none⟩ = some (.slice B2 lb2 cb2))) := fun X hk => ⟨⟨(hk.cell (lt_of_cell z4) (by simp)).trans z4, (hk.cell (lt_of_cell y4) (by simp)).trans y4⟩, ⟨(hk.cell (lt_of_cell g0) (by simp)).trans g0, (hk.cell (lt_of_cell g1) (by simp)).trans g1, (hk.cell (lt_of_cell g2) (by simp)).trans g2, (hk.cell (lt_of_cell g3) (by simp)).trans g3, (hk.cell (lt_of_cell g4) (by simp)).trans g4⟩, ⟨(hk.cell (lt_of_cell f0) (by simp)).trans f0, (hk.cell (lt_of_cell f1) (by simp)).trans f1, (hk.cell (lt_of_cell f2) (by simp)).trans f2, (hk.cell (lt_of_cell f3) (by simp)).trans f3, (hk.cell (lt_of_cell f4) (by simp)).trans f4⟩⟩
          have ya := HALL.out wr (Keeps.refl [] _)
          clear z0 z1 z2 z3 z4 y0 y1 y2 y3 y4 g0 g1 g2 g3 g4 f0 f1 f2 f3 f4
          go_region_held3 (fun w' => (w'.cell? ⟨w.heap.size, 4, none⟩ = some (.slice (some ⟨b9, o1, none⟩) lb cb) ∧ w'.cell? ⟨w.heap.size + 1, 4, none⟩ = some (.slice (some ⟨b8, o2, none⟩) lb cb')) ∧ (w'.cell? ⟨b9, o1 + j * 5, none⟩ = some (.int .u8 (c1 : Int)) ∧ w'.cell? ⟨b9, o1 + j * 5 + 1, none⟩ = some (.int .u8 (n1 : Int)) ∧ w'.cell? ⟨b9, o1 + j * 5 + 2, none⟩ = some (.bool k1) ∧ w'.cell? ⟨b9, o1 + j * 5 + 3, none⟩ = some (.slice A1 la1 ca1) ∧ w'.cell? ⟨b9, o1 + j * 5 + 4, none⟩ = some (.slice B1 lb1 cb1)) ∧ (w'.cell? ⟨b8, o2 + j * 5, none⟩ = some (.int .u8 (c2 : Int)) ∧ w'.cell? ⟨b8, o2 + j * 5 + 1, none⟩ = some (.int .u8 (n2 : Int)) ∧ w'.cell? ⟨b8, o2 + j * 5 + 2, none⟩ = some (.bool k2) ∧ w'.cell? ⟨b8, o2 + j * 5 + 3, none⟩ = some (.slice A2 la2 ca2) ∧ w'.cell? ⟨b8, o2 + j * 5 + 4, none⟩ = some (.slice B2 lb2 cb2))) (first | exact ya | exact yb | go_keep) (first | (go_at_call 17; refine (HREC.out _ (by repeat (first | exact Keeps.refl [] _ | refine Keeps.drew ?_))).mono ?_; rintro e w2 ⟨rfl, hk2⟩; have kk := Keeps.trans' (a := wr) (bs := []) (by repeat (first | exact Keeps.refl [] _ | refine Keeps.drew ?_)) hk2; have HKK := Lib.hid kk; have yb := HALL.out w2 kk; clear hk2 kk))
          all_goals have HK2 := Lib.hid (HKR.out.trans' HKK.out)
          all_goals have HBX2 := Lib.hid (blk_keep HBX.out HKK.out (by simp))
          all_goals have HBY2 := Lib.hid (blk_keep HBY.out HKK.out (by simp))
          all_goals clear ya yb
          cases b1
          · go_wp2_with fail
            go_ret
            exact ⟨by rw [sameB_false (sameL_cut HX.out HX'.out HB1.out.symm (HL.out.trans HL'.out.symm))]; rfl, HK2.out⟩
          · go_wp2_with fail
            go_roundw
            · refine ⟨j + 1, by go_num, by omega, ?_, HK2.out, HBX2.out, HBY2.out⟩
              show _ = _
              rw [HSN.out, HS.out, ← HB1.out]; rfl
            · simp [intOf]; omega
        · obtain rfl : j = lb := by omega
          have htl : l.take j = l := List.take_of_length_le (by have := HL.out; omega)
          have htl' : l'.take j = l' := List.take_of_length_le (by have := HL'.out; omega)
          rw [htl, htl'] at HS
          clear htl htl'
          go_wp2_with fail
          go_ret
          refine ⟨?_, HKR.out⟩
          rw [sameB_true (HL.out.trans HL'.out.symm) HS.out]; rfl
    · refine (rsame_step c n k A B la ca lb cb b c' n' k' A' B' la' ca' lb' cb' b' w h7 i7 hlb hlb' hd).mono ?_
      rintro e w' ⟨rfl, hk⟩
      refine ⟨?_, hk⟩
      congr 2
      symm
      unfold sameB
      rw [Bool.and_eq_false_iff]
      left
      rw [← Bool.not_eq_true]
      intro hq
      simp only [Bool.and_eq_true, beq_iff_eq] at hq
      obtain ⟨q1, q2, q3, q4, q5⟩ := hq
      exact hd ⟨q1, q2, q3, q4, by omega⟩

end Go.Proofs.Ytnengckecooohaa
/- ber: truths and sets; rows of values that came in; a value is the same as itself. -/
namespace Go.Proofs.Ytnengckecooohaa
open Go.RowKit Go.Shelf
set_option linter.unusedVariables false
set_option linter.unusedSimpArgs false
set_option maxRecDepth 100000

theorem set_is (B : Option Addr) (lb cb : Nat) (l : List BV) (w : World) (hl : l.length = lb) (hI : ItemsAt w B 0 l) (hn : nodesL l ≤ 1000000000) (hm : maxL l ≤ 1000000000) :
    Calls Try.prog 30 #[.slice B lb cb] w (HoldQ 17 lb l w) := by
  have HC := Lib.hid (fun X (hk : Keeps [] w X) => holdi_is 17 (by decide) B lb cb l X hl (ItemsAt.grow hk B 0 l hI) hn hm)
  clear hI hn hm hl
  obtain ⟨W0, hW0⟩ : ∃ W0, w.alloc ber0 = W0 := ⟨_, rfl⟩
  have HK0 : Hid (Keeps [] w W0) := by rw [← hW0]; exact (Keeps.refl [] w).alloc _
  have HZ0 : Hid (W0.heap.size = w.heap.size + 1) := by rw [← hW0]; simp [Hid]
  have HR0 : Hid (W0.heap[w.heap.size]? = some ber0) := by rw [← hW0]; exact heap_new8 w _
  go_enter Try.func30, Try.ntmps30
  go_wp2_with fail
  refine (HC.out _ HK0.out).mono ?_
  rintro e w1 ⟨C, d, rfl, hi, hk1⟩
  have hr1 := blk_keep HR0.out hk1 (by simp)
  obtain ⟨⟨g0, g1, g2, g3, g4⟩, ⟨f0, f1, f2, f3, f4⟩⟩ := five_facts hr1
  have HR1 := Lib.hid hr1
  have HI := Lib.hid hi
  have HK1 := Lib.hid (HK0.out.trans' hk1)
  clear hr1 hi hk1
  go_wp2_with fail
  have hrow := five_set (v0 := .int .u8 0) (v1 := .int .u8 ((17 : Nat) : Int)) (v2 := .bool true) (v3 := .slice none 0 0) (v4 := .slice C lb d) HR1.out
  have hkf := five_keep (v0 := .int .u8 0) (v1 := .int .u8 ((17 : Nat) : Int)) (v2 := .bool true) (v3 := .slice none 0 0) (v4 := .slice C lb d) HK1.out (g := w.heap.size) (.inr (Nat.le_refl _))
  have hks := five_keep (bs := [w.heap.size]) (v0 := .int .u8 0) (v1 := .int .u8 ((17 : Nat) : Int)) (v2 := .bool true) (v3 := .slice none 0 0) (v4 := .slice C lb d) (Keeps.refl [w.heap.size] w1) (g := w.heap.size) (.inl (by simp))
  refine ret_ber rfl rfl rfl hrow rfl ⟨C, d, rfl, fun E X hE hk => ?_, hkf⟩
  have hk9 : Keeps (w.heap.size :: E) w1 X := (hks.mono (by simp)).trans hk (fun x hx => .inl (List.mem_cons_of_mem _ hx))
  refine HI.out _ X (fun x hx => ?_) hk9
  have := HZ0.out
  rcases List.mem_cons.1 hx with hx | hx
  · omega
  · have := hE x hx; omega

theorem truth_is (is : Bool) (w : World) : Calls Try.prog 27 #[.bool is] w fun e w' => ∃ A, e = .returned (.agg #[.int .u8 0, .int .u8 1, .bool false, .slice A 1 1, .slice none 0 0]) ∧ BytesAt w' (.slice A 1 1) [if is then 255 else 0] ∧ Keeps [] w w' := by
  have HB := Lib.hid (fun X A la ca => holdb_is 1 A la ca X)
  have HN : Hid (∀ (v : UInt8), BytesAt ((w.alloc ber0).alloc (.cells #[.int .u8 (v.toNat : Int)] 5)) (.slice (some ⟨w.heap.size + 1, 0, none⟩) 1 1) [v]) := fun v => by
    refine ⟨_, _, rfl, Nat.le_refl _, by unfold maxLen; decide, fun _ => ⟨_, _, rfl, fun i u hu => ?_⟩⟩
    have h9 := heap_new8 (w.alloc ber0) (.cells #[.int .u8 (v.toNat : Int)] 5)
    rw [World.size_alloc] at h9
    have hi : i = 0 := by
      rcases Nat.eq_zero_or_pos i with h | h
      · exact h
      · rw [List.getElem?_eq_none (by simp; omega)] at hu; cases hu
    subst hi
    simp at hu
    subst hu
    exact cell_of_blk h9 0
  cases is
  · go_enter Try.func27, Try.ntmps27
    go_wp2_with fail
    refine (HB.out _ _ _ _).mono ?_
    rintro e w2 ⟨rfl, hk⟩
    have HK2 := Lib.hid ((((Keeps.refl [] w).alloc ber0).alloc _).trans' hk)
    have HO2 := Lib.hid ((HN.out 0).grow hk)
    have hrow : w2.heap[w.heap.size]? = some (.cells #[.int .u8 0, .int .u8 0, .bool false, .slice none 0 0, .slice none 0 0] 25 (0, 0)) := blk_keep (blk_keep (heap_new8 w _) ((Keeps.refl [] (w.alloc ber0)).alloc _) (by simp)) hk (by simp)
    have HR := Lib.hid hrow
    obtain ⟨⟨c0, c1, c2, c3, c4⟩, ⟨f0, f1, f2, f3, f4⟩⟩ := five_facts hrow
    clear hrow hk
    go_wp2_with fail
    exact ret_ber rfl rfl rfl (five_set HR.out) rfl ⟨_, rfl, five_bytes HO2.out (fun b hb => by simp [Value.ownBlock] at hb; omega), five_keep HK2.out (.inr (Nat.le_refl _))⟩
  · go_enter Try.func27, Try.ntmps27
    go_wp2_with fail
    refine (HB.out _ _ _ _).mono ?_
    rintro e w2 ⟨rfl, hk⟩
    have HK2 := Lib.hid ((((Keeps.refl [] w).alloc ber0).alloc _).trans' hk)
    have HO2 := Lib.hid ((HN.out 255).grow hk)
    have hrow : w2.heap[w.heap.size]? = some (.cells #[.int .u8 0, .int .u8 0, .bool false, .slice none 0 0, .slice none 0 0] 25 (0, 0)) := blk_keep (blk_keep (heap_new8 w _) ((Keeps.refl [] (w.alloc ber0)).alloc _) (by simp)) hk (by simp)
    have HR := Lib.hid hrow
    obtain ⟨⟨c0, c1, c2, c3, c4⟩, ⟨f0, f1, f2, f3, f4⟩⟩ := five_facts hrow
    clear hrow hk
    go_wp2_with fail
    exact ret_ber rfl rfl rfl (five_set HR.out) rfl ⟨_, rfl, five_bytes HO2.out (fun b hb => by simp [Value.ownBlock] at hb; omega), five_keep HK2.out (.inr (Nat.le_refl _))⟩

theorem sameL_refl : ∀ (l : List BV), (∀ t ∈ l, sameB t t = true) → sameL l l = true
  | [], _ => by simp [sameL]
  | t :: r, h => by
    unfold sameL
    rw [h t (by simp), sameL_refl r (fun x hx => h x (by simp [hx]))]
    rfl
theorem sameB_refl (t : BV) : sameB t t = true := by
  induction t using BV.ind with
  | h c n k b l ih => exact sameB_true rfl (sameL_refl l ih)

theorem open_bers {H : Type} {enc : TypeId × Value → H} {W : World} {base : Nat} {sp : Nat → Bool} {hd : Bool} {A0 : Option Addr} {n0 c0 : Nat} {d : DataW H} {p : List MemPlace} (h : DataW.Trod enc Try.prog W base sp hd 23 (.slice A0 n0 c0) d p) : ∃ l : List BV, l.length = n0 ∧ n0 ≤ c0 ∧ c0 ≤ 9223372036854775807 ∧ ItemsAt W A0 0 l := by
  obtain ⟨fuel, hf⟩ := h
  have hf' : DataW.trod enc Try.prog W base sp hd fuel 23 [.slice A0 n0 c0] = some (d, p) := hf
  obtain ⟨B, lb, cb, l, he, h1, h2, h3, h4⟩ := bers_of (fun f _ => ber_of_trod f) hf'
  injection he with e1 e2 e3
  subst e1 e2 e3
  exact ⟨l, h1, h2, h3, h4⟩

end Go.Proofs.Ytnengckecooohaa
/- ber: truths, texts, lists and sets. -/
namespace Go.Proofs.Ytnengckecooohaa
open Go.RowKit Go.Shelf
set_option linter.unusedVariables false
set_option linter.unusedSimpArgs false
set_option maxRecDepth 100000

set_option maxHeartbeats 4000000 in
theorem bercommon_any (s : List UInt8) (hs : s.length ≤ 9223372036854775807) (B : Option Addr) (lb cb : Nat) (l : List BV) (is : Bool) (w : World) (hl : l.length = lb) (hlc : lb ≤ cb) (hcc : cb ≤ 9223372036854775807) (hI : ItemsAt w B 0 l) :
    Calls Try.prog 5 #[.string ⟨s.toArray⟩, .slice B lb cb, .bool is] w fun e w' => e = .returned (.bool true) ∧ Below w.heap.size w w' := by
  have HI := Lib.hid hI
  have HL := Lib.hid hl
  by_cases h1 : (1000 : Int) < (s.length : Int)
  · clear hl hlc hcc hI
    go_enter Try.func5, Try.ntmps5
    go_wp2_with fail
    refine (known5_any _).mono ?_
    rintro e w1 ⟨rfl, hk⟩
    have HK := Lib.hid hk
    clear hk
    go_wp2_with fail
    go_ret
    exact ⟨rfl, below_keeps HK.out⟩
  by_cases h2 : (10 : Int) < (lb : Int)
  · clear hl hlc hcc hI
    go_enter Try.func5, Try.ntmps5
    go_wp2_with fail
    refine (known5_any _).mono ?_
    rintro e w1 ⟨rfl, hk⟩
    have HK := Lib.hid hk
    clear hk
    go_wp2_with fail
    go_ret
    exact ⟨rfl, below_keeps HK.out⟩
  have HT : Hid (∀ X (A : Option Addr) (d : Nat), lb ≤ d → d ≤ 9223372036854775807 → ItemsAt X A 0 l → BerAt X (.mk 0 0 false [] l) ⟨0, 0, false, none, 0, 0, A, lb, d⟩) := fun X A d h3 h4 h5 => ⟨rfl, rfl, rfl, by decide, by decide, rfl, BytesAt.none _, hl, h3, h4, h5⟩
  have hlf : Calls Try.prog 26 #[.agg #[.int .u8 0, .int .u8 0, .bool false, .slice none 0 0, .slice B lb cb], .int .i64 2000, .int .i64 1] w fun e w' => e = .returned (.int .i64 (leftB 1 2000 (.mk 0 0 false [] l))) ∧ Keeps [] w w' := left_is (.mk 0 0 false [] l) 1 2000 ⟨0, 0, false, none, 0, 0, B, lb, cb⟩ w (by decide) (by decide) (by decide) (HT.out w B cb hlc hcc hI)
  have hbn := fun hz => light_fits (.mk 0 0 false [] l) 2000 (by decide) hz
  obtain ⟨z, hz⟩ : ∃ z, leftB 1 2000 (.mk 0 0 false [] l) = z := ⟨_, rfl⟩
  rw [hz] at hlf hbn
  have HLF := Lib.hid hlf
  have HBN := Lib.hid hbn
  have HCC := Lib.hid hcc
  have HLC := Lib.hid hlc
  clear hlf hbn hz hcc hlc hI hl
  rcases Int.lt_or_le z 0 with h0 | h0
  · go_enter Try.func5, Try.ntmps5
    go_wp2_with fail
    refine HLF.out.mono ?_
    rintro e w1 ⟨rfl, hk1⟩
    have HK1 := Lib.hid hk1
    clear hk1
    go_wp2_with fail
    refine (known5_any _).mono ?_
    rintro e w2 ⟨rfl, hk2⟩
    have HK2 := Lib.hid (HK1.out.trans' hk2)
    clear hk2
    go_wp2_with fail
    go_ret
    exact ⟨rfl, below_keeps HK2.out⟩
  have hz0 : ¬ z < 0 := by omega
  have hfit := HBN.out h0
  have hnl : nodesL l ≤ 1000000000 := by have := hfit.1; simp [nodesB] at this; omega
  have hml : maxL l ≤ 1000000000 := by have := hfit.2; simp [maxB] at this; omega
  have HLI := Lib.hid (fun X (hk : Keeps [] w X) => list_is B lb cb l X HL.out (ItemsAt.grow hk B 0 l HI.out) hnl hml)
  have HSE := Lib.hid (fun X (hk : Keeps [] w X) => set_is B lb cb l X HL.out (ItemsAt.grow hk B 0 l HI.out) hnl hml)
  have HTX := Lib.hid (fun X => text_is s X hs)
  clear h0 hfit hnl hml hs
  go_enter Try.func5, Try.ntmps5
  go_wp2_with fail
  refine HLF.out.mono ?_
  rintro e w1 ⟨rfl, hk1⟩
  have HK1 := Lib.hid hk1
  clear hk1
  go_wp2_with fail
  refine (truth_is is _).mono ?_
  rintro e w2 ⟨A2, rfl, hb2, hk2⟩
  have HB2 := Lib.hid hb2
  have HK2 := Lib.hid (HK1.out.trans' hk2)
  clear hb2 hk2
  obtain ⟨W3, hW3⟩ : ∃ W3, w2.alloc (.cells #[.int .u8 0, .int .u8 1, .bool false, .slice A2 1 1, .slice none 0 0] 25) = W3 := ⟨_, rfl⟩
  have hk3 : Keeps [] w2 W3 := by rw [← hW3]; exact (Keeps.refl [] w2).alloc _
  have HR3 := Lib.hid (show W3.heap[w2.heap.size]? = some (.cells #[.int .u8 0, .int .u8 1, .bool false, .slice A2 1 1, .slice none 0 0] 25 (0, 0)) by rw [← hW3]; exact heap_new8 w2 _)
  have HK3 := Lib.hid (HK2.out.trans' hk3)
  have HB3 := Lib.hid (HB2.out.grow hk3)
  have HW3 := Lib.hid hW3
  clear hk3 hW3
  go_wp2_with fail
  rw [HW3.out]
  refine (HTX.out _).mono ?_
  rintro e w4 ⟨A4, c4, rfl, hb4, hk4⟩
  have HB4 := Lib.hid hb4
  have HK4 := Lib.hid hk4
  clear hb4 hk4
  obtain ⟨W5, hW5⟩ : ∃ W5, w4.alloc (.cells #[.int .u8 0, .int .u8 4, .bool false, .slice A4 s.length c4, .slice none 0 0] 25) = W5 := ⟨_, rfl⟩
  have hk5 : Keeps [] w4 W5 := by rw [← hW5]; exact (Keeps.refl [] w4).alloc _
  have HR5 := Lib.hid (show W5.heap[w4.heap.size]? = some (.cells #[.int .u8 0, .int .u8 4, .bool false, .slice A4 s.length c4, .slice none 0 0] 25 (0, 0)) by rw [← hW5]; exact heap_new8 w4 _)
  have HK5 := Lib.hid (HK4.out.trans' hk5)
  have HB5 := Lib.hid (HB4.out.grow hk5)
  have HW5 := Lib.hid hW5
  clear hk5 hW5
  go_wp2_with fail
  rw [HW5.out]
  refine (HLI.out _ (HK3.out.trans' HK5.out)).mono ?_
  rintro e w6 ⟨C, d, rfl, hi6, hk6⟩
  have HI6 := Lib.hid hi6
  have HK6 := Lib.hid hk6
  clear hi6 hk6
  go_wp2_with fail
  refine (HSE.out _ (HK3.out.trans' (HK5.out.trans' HK6.out))).mono ?_
  rintro e w7 ⟨C', d', rfl, hi7, hk7⟩
  have HI7 := Lib.hid hi7
  have HK7 := Lib.hid hk7
  clear hi7 hk7
  have hk8 : Keeps [] w7 ((w7.alloc (.cells #[.int .u8 0, .int .u8 16, .bool true, .slice none 0 0, .slice C lb d] 25)).alloc (.cells #[.int .u8 0, .int .u8 17, .bool true, .slice none 0 0, .slice C' lb d'] 25)) := ((Keeps.refl [] w7).alloc _).alloc _
  have HK38 := Lib.hid ((HK5.out.trans' (HK6.out.trans' HK7.out)).trans' hk8)
  have HK58 := Lib.hid ((HK6.out.trans' HK7.out).trans' hk8)
  have HK78 := Lib.hid hk8
  have HR7 := Lib.hid (two_boxes w7 (.cells #[.int .u8 0, .int .u8 16, .bool true, .slice none 0 0, .slice C lb d] 25) (.cells #[.int .u8 0, .int .u8 17, .bool true, .slice none 0 0, .slice C' lb d'] 25))
  have HTO : Hid (Calls Try.prog 24 #[.agg #[.int .u8 0, .int .u8 1, .bool false, .slice A2 1 1, .slice none 0 0]] ((w7.alloc (.cells #[.int .u8 0, .int .u8 16, .bool true, .slice none 0 0, .slice C lb d] 25)).alloc (.cells #[.int .u8 0, .int .u8 17, .bool true, .slice none 0 0, .slice C' lb d'] 25)) fun e w' => e = .returned (.tuple #[.bool is, .bool true]) ∧ Keeps [] ((w7.alloc (.cells #[.int .u8 0, .int .u8 16, .bool true, .slice none 0 0, .slice C lb d] 25)).alloc (.cells #[.int .u8 0, .int .u8 17, .bool true, .slice none 0 0, .slice C' lb d'] 25)) w') := by
    have h9 := truthof_is 0 1 false A2 none 1 1 0 0 _ ((w7.alloc (.cells #[.int .u8 0, .int .u8 16, .bool true, .slice none 0 0, .slice C lb d] 25)).alloc (.cells #[.int .u8 0, .int .u8 17, .bool true, .slice none 0 0, .slice C' lb d'] 25)) rfl (HB3.out.grow HK38.out)
    rw [show truthR false [if is then 255 else 0] = .tuple #[.bool is, .bool true] by cases is <;> rfl] at h9
    exact h9
  obtain ⟨⟨y0, y1, y2, y3, y4⟩, _⟩ := five_facts (blk_keep HR3.out HK38.out (by simp))
  clear hk8
  go_wp2_with fail
  refine HTO.out.mono ?_
  rintro e w8 ⟨rfl, hk8⟩
  have HK8 := Lib.hid hk8
  have HBX : Hid (∀ X, Keeps [] w8 X → ((X.cell? ⟨w2.heap.size, 1, none⟩ = some (.int .u8 1)) ∧ (X.cell? ⟨w4.heap.size, 1, none⟩ = some (.int .u8 4) ∧ X.cell? ⟨w4.heap.size, 2, none⟩ = some (.bool false) ∧ X.cell? ⟨w4.heap.size, 3, none⟩ = some (.slice A4 s.length c4)) ∧ (X.cell? ⟨w7.heap.size, 1, none⟩ = some (.int .u8 16) ∧ X.cell? ⟨w7.heap.size, 2, none⟩ = some (.bool true) ∧ X.cell? ⟨w7.heap.size, 4, none⟩ = some (.slice C lb d)) ∧ (X.cell? ⟨w7.heap.size + 1, 1, none⟩ = some (.int .u8 17) ∧ X.cell? ⟨w7.heap.size + 1, 2, none⟩ = some (.bool true) ∧ X.cell? ⟨w7.heap.size + 1, 4, none⟩ = some (.slice C' lb d')))) := fun X hk => by
    have hkk := hk8.trans' hk
    have f1 := (five_facts (blk_keep HR3.out (HK38.out.trans' hkk) (by simp))).1
    have f2 := (five_facts (blk_keep HR5.out (HK58.out.trans' hkk) (by simp))).1
    have f3 := (five_facts (blk_keep HR7.out.1 hkk (by simp))).1
    have f4 := (five_facts (blk_keep HR7.out.2 hkk (by simp))).1
    exact ⟨f1.2.1, ⟨f2.2.1, f2.2.2.1, f2.2.2.2.1⟩, ⟨f3.2.1, f3.2.2.1, f3.2.2.2.2⟩, ⟨f4.2.1, f4.2.2.1, f4.2.2.2.2⟩⟩
  have HS1 : Hid (∀ X, Keeps [] w8 X → Calls Try.prog 17 #[.agg #[.int .u8 0, .int .u8 0, .bool false, .slice none 0 0, .slice C lb d], .agg #[.int .u8 0, .int .u8 0, .bool false, .slice none 0 0, .slice B lb cb]] X fun e w' => e = .returned (.bool true) ∧ Keeps [] X w') := fun X hk => by
    have hk6X := (HK7.out.trans' HK78.out).trans' (hk8.trans' hk)
    obtain ⟨_, _, _, _, _, _, _, _, q1, q2, q3⟩ := HI6.out [] X (by simp) hk6X
    have h9 := rsame_is (.mk 0 0 false [] l) (.mk 0 0 false [] l) ⟨0, 0, false, none, 0, 0, C, lb, d⟩ ⟨0, 0, false, none, 0, 0, B, lb, cb⟩ X (HT.out X C d q1 q2 q3) (HT.out X B cb HLC.out HCC.out (ItemsAt.grow (HK3.out.trans' (HK38.out.trans' (hk8.trans' hk))) B 0 l HI.out))
    rw [sameB_refl] at h9
    exact h9
  have HS2 : Hid (∀ X, Keeps [] w8 X → Calls Try.prog 17 #[.agg #[.int .u8 0, .int .u8 0, .bool false, .slice none 0 0, .slice C' lb d'], .agg #[.int .u8 0, .int .u8 0, .bool false, .slice none 0 0, .slice B lb cb]] X fun e w' => e = .returned (.bool true) ∧ Keeps [] X w') := fun X hk => by
    have hk7X := HK78.out.trans' (hk8.trans' hk)
    obtain ⟨_, _, _, _, _, _, _, _, q1, q2, q3⟩ := HI7.out [] X (by simp) hk7X
    have h9 := rsame_is (.mk 0 0 false [] l) (.mk 0 0 false [] l) ⟨0, 0, false, none, 0, 0, C', lb, d'⟩ ⟨0, 0, false, none, 0, 0, B, lb, cb⟩ X (HT.out X C' d' q1 q2 q3) (HT.out X B cb HLC.out HCC.out (ItemsAt.grow (HK3.out.trans' (HK38.out.trans' (hk8.trans' hk))) B 0 l HI.out))
    rw [sameB_refl] at h9
    exact h9
  have hc4 := conv_bytes (HB5.out.grow (HK58.out.trans' hk8))
  obtain ⟨a1, ⟨a2, a3, a4⟩, ⟨a5, a6, a7⟩, ⟨a8, a9, a10⟩⟩ := HBX.out w8 (Keeps.refl _ _)
  have HKA := Lib.hid (HK3.out.trans' (HK38.out.trans' hk8))
  clear hk8 y0 y1 y2 y3 y4
  go_wp2_with fail
  refine (HS1.out _ (Keeps.refl _ _)).mono ?_
  rintro e w9 ⟨rfl, hk9⟩
  obtain ⟨a1, ⟨a2, a3, a4⟩, ⟨a5, a6, a7⟩, ⟨a8, a9, a10⟩⟩ := HBX.out w9 hk9
  have HC9 := Lib.hid (HS2.out w9 hk9)
  have HK9 := Lib.hid (HKA.out.trans' hk9)
  clear hk9 hc4
  go_wp2_with fail
  refine HC9.out.mono ?_
  rintro e w10 ⟨rfl, hk10⟩
  have HK10 := Lib.hid (HK9.out.trans' hk10)
  clear hk10
  go_wp2_with fail
  refine (known5_any _).mono ?_
  rintro e w11 ⟨rfl, hk11⟩
  have HK11 := Lib.hid (HK10.out.trans' hk11)
  clear hk11
  go_wp2_with fail
  go_ret
  exact ⟨rfl, below_keeps HK11.out⟩

end Go.Proofs.Ytnengckecooohaa
