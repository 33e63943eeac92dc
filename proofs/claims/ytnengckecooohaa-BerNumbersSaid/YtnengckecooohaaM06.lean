/- Texts of one proof, laid together: E11 E12 E13. -/
import Derived.Test.YtnengckecooohaaM05
/- ber: a value's bytes, laid. -/
namespace Go.Proofs.Ytnengckecooohaa
open Go.RowKit Go.Shelf
set_option linter.unusedVariables false
set_option linter.unusedSimpArgs false
set_option maxRecDepth 100000

mutual
/-- Has a value what may be, of lengths that memory bears? -/
def fineB : BV → Bool
  | .mk c n k b l => stands (.mk c n k b l) && decide (b.length ≤ 1000000000) && fineL l
def fineL : List BV → Bool
  | [] => true
  | t :: r => fineB t && fineL r
end
theorem fineL_mem : ∀ (l : List BV) (t : BV), fineL l = true → t ∈ l → fineB t = true
  | x :: r, t, h, hm => by
    simp only [fineL, Bool.and_eq_true] at h
    rcases List.mem_cons.1 hm with hm | hm
    · rw [hm]; exact h.1
    · exact fineL_mem r t h.2 hm

mutual
/-- A value's bytes; none: they are too many. -/
def layB : BV → Option (List UInt8)
  | .mk c n k b l => match layL [] l with
    | none => none
    | some its => if 65536 < (lenB (b.length + its.length)).length + 1 + (b.length + its.length) then none else some (n8 ((c * 64 + n + (if k then 32 else 0) : Nat) : Int) :: lenB (b.length + its.length) ++ b ++ its)
def layL : List UInt8 → List BV → Option (List UInt8)
  | acc, [] => some acc
  | acc, t :: r => match layB t with
    | none => none
    | some x => if 65536 < acc.length + x.length then none else layL (acc ++ x) r
end
/-- How lay ends. -/
def LayQ (t : BV) (w : World) (e : Ending) (w' : World) : Prop :=
  (∃ xs A d, layB t = some xs ∧ e = .returned (.slice A xs.length d) ∧ BytesAt w' (.slice A xs.length d) xs ∨ layB t = none ∧ e = gaveUp 3) ∧ Keeps [] w w'
theorem layB_len {t : BV} {xs : List UInt8} (h : layB t = some xs) : xs.length ≤ 65536 := by
  obtain ⟨c, n, k, b, l⟩ := t
  unfold layB at h
  split at h
  · cases h
  · split at h
    · cases h
    · injection h with h
      subst h
      simp
      omega

set_option maxHeartbeats 2000000 in
theorem lay_is : ∀ (t : BV) (h : BH) (p : Nat) (w : World), fineB t = true → BerAt w t h → w.cell? ⟨p, 0, none⟩ = some (.func (.func 54) #[] #[.pointer (some ⟨p, 0, none⟩)]) →
    Calls Try.prog 54 #[h.val, .pointer (some ⟨p, 0, none⟩)] w (LayQ t w) := by
  intro t
  induction t using BV.ind with
  | h c n k b l ih =>
    intro h p w hfine ht hp
    have IH := Lib.hid ih
    obtain ⟨iu, hiu, hzu0, hzu1, hzu2⟩ := info_parts u8_info
    obtain ⟨rfl, rfl, rfl, h4, h5, h6, h7, h8, h9, h10, h11⟩ := ht
    obtain ⟨c, n, k, A, la, ca, B, lb, cb⟩ := h
    simp only [fineB, Bool.and_eq_true, decide_eq_true_eq] at hfine
    obtain ⟨⟨hst, hbl⟩, hfl⟩ := hfine
    have hcn : c ≤ 3 ∧ n < 31 := by
      simp only [stands, Bool.and_eq_true, decide_eq_true_eq] at hst
      exact ⟨hst.1, hst.2.1⟩
    have hl : l.length = lb := h8
    have hb6 : b.length = la := h6
    have hla : la ≤ 1000000000 := by omega
    have hlb : lb ≤ 9223372036854775807 := Nat.le_trans h9 h10
    have HI := Lib.hid h11
    have HL := Lib.hid hl
    have HB := Lib.hid h7
    have HBL := Lib.hid hb6
    have HFL := Lib.hid hfl
    obtain ⟨W0, hW0⟩ : ∃ W0, w.alloc (.cells #[.int .u8 (c : Int), .int .u8 (n : Int), .bool k, .slice A la ca, .slice B lb cb] 25) = W0 := ⟨_, rfl⟩
    have HK : Hid (Keeps [] w W0) := by rw [← hW0]; exact (Keeps.refl [] w).alloc _
    have hr0 : W0.heap[w.heap.size]? = some (.cells #[.int .u8 (c : Int), .int .u8 (n : Int), .bool k, .slice A la ca, .slice B lb cb] 25 (0, 0)) := by rw [← hW0]; exact heap_new8 w _
    have HF := Lib.hid (fun X (hk : Keeps [] W0 X) => (five_facts (blk_keep hr0 hk (by simp))).1)
    obtain ⟨y0, y1, y2, y3, y4⟩ := HF.out W0 (Keeps.refl [] W0)
    have HP := Lib.hid (fun X (hk : Keeps [] w X) => (hk.cell (lt_of_cell hp) (by simp)).trans hp)
    clear h4 h5 h6 h7 h8 h9 h10 h11 hl hp hst hfl hb6 hr0 hbl ih
    unfold BH.val
    go_enter Try.func54, Try.ntmps54
    go_wp2_with fail
    go_loopw [4, 12] (fun v i wr => ∃ (j : Nat) (acc : List UInt8) (VA : Option Addr) (vc : Nat), v = .slice VA acc.length vc ∧ i = .int .i64 (j : Int) ∧ j ≤ lb ∧ Hid (layL [] l = layL acc (l.drop j) ∧ acc.length ≤ 65536) ∧ Hid (wr.ownsRow W0.heap.size 5 1 (.slice VA acc.length vc) acc.length (acc.map bv)) ∧ Hid (Keeps [] W0 wr)) (fun _ i _ => lb - (intOf i).toNat)
    case atStart => exact ⟨0, [], none, 0, rfl, rfl, Nat.zero_le _, ⟨rfl, by simp⟩, World.ownsRow_nil _ _ _ _, Keeps.refl _ _⟩
    case round =>
      obtain ⟨j, acc, VA, vc, rfl, rfl, hj, HD, HOW, HKR⟩ := hrel
      by_cases hlt : j < lb
      · have hx : l[j]? = some (l[j]'(by have := HL.out; omega)) := List.getElem?_eq_getElem _
        obtain ⟨b1, o1, hh, rfl, hc, hat⟩ := (ItemsAt.grow (HK.out.trans' HKR.out) B 0 l HI.out).at_ j _ hx
        rw [Nat.zero_add] at hc
        obtain ⟨g0, g1, g2, g3, g4⟩ := five_at hc
        have hmem : (l[j]'(by have := HL.out; omega)) ∈ l := List.getElem_mem _
        have hdr : l.drop j = l[j]'(by have := HL.out; omega) :: l.drop (j + 1) := List.drop_eq_getElem_cons _
        rw [hdr] at HD
        have hfx := fineL_mem l _ HFL.out hmem
        generalize hxx : l[j]'(by have := HL.out; omega) = x at *
        obtain ⟨c', n', k', A', la', ca', B', lb', cb'⟩ := hh
        have HREC : Hid (∀ X, Keeps [] wr X → Calls Try.prog 54 #[.agg #[.int .u8 (c' : Int), .int .u8 (n' : Int), .bool k', .slice A' la' ca', .slice B' lb' cb'], .pointer (some ⟨p, 0, none⟩)] X (LayQ x X)) := fun X hk =>
          IH.out x hmem ⟨c', n', k', A', la', ca', B', lb', cb'⟩ p X hfx (BerAt.grow hk x _ hat) (HP.out X (HK.out.trans' (HKR.out.trans' hk)))
        have hp1 := HP.out wr (HK.out.trans' HKR.out)
        have hp2 : (wr.alloc (.cells #[.int .u8 (c' : Int), .int .u8 (n' : Int), .bool k', .slice A' la' ca', .slice B' lb' cb'] 25)).cell? ⟨p, 0, none⟩ = some (.func (.func 54) #[] #[.pointer (some ⟨p, 0, none⟩)]) := HP.out _ ((HK.out.trans' HKR.out).alloc _)
        obtain ⟨z0, z1, z2, z3, z4⟩ := HF.out wr HKR.out
        clear hx hat hc hxx hdr hfx
        go_wp2_with fail
        refine (HREC.out _ ((Keeps.refl [] wr).alloc _)).mono ?_
        rintro e w2 ⟨⟨xs, XA, xd, ⟨hlx, rfl, hbx⟩ | ⟨hlx, rfl⟩⟩, hk2⟩
        · have HD2 : Hid ((if 65536 < acc.length + xs.length then none else layL (acc ++ xs) (l.drop (j + 1))) = layL [] l) := by
            have h9 := HD.out.1
            rw [show layL acc (x :: l.drop (j + 1)) = (match layB x with | none => none | some x => if 65536 < acc.length + x.length then none else layL (acc ++ x) (l.drop (j + 1))) from rfl, hlx] at h9
            exact h9.symm
          have hxl := layB_len hlx
          have hal := HD.out.2
          have HBX := Lib.hid hbx
          have HOW2 := Lib.hid (own_keep HOW.out (((Keeps.refl [] wr).alloc _).trans' hk2) (by simp))
          have HK2 := Lib.hid ((HKR.out.alloc _).trans' hk2)
          have hz2 := HK2.out.size
          clear hk2 hbx hlx
          generalize hxn : xs.length = xn at *
          generalize han : acc.length = an at *
          go_wp2_with (at_builtin; refine wpList_append_opt rfl (.tmp 16) (.tmp 19) 22 rfl W0.heap.size 5 iu _ 1 1 Try.underlying22 hiu hzu0 hzu1 hzu2 rfl (by decide) (.slice VA an vc) an (acc.map bv) rfl HOW2.out XA xn xd (xs.map bv) rfl (by simp [hxn]) (Src.of_bytes HBX.out) bvs_one (by unfold maxLen; omega) (by omega) hz2 ?_; intro v3 w3 ho hg hs; rw [← List.map_append] at ho; obtain ⟨VB, vd, hv⟩ := own_slice ho; subst hv; have HO3 := Lib.hid ho; have HK3 := Lib.hid (keeps_own8 HOW2.out HK2.out hg); clear ho hg hs)
          refine (mustfit_is _ _).mono ?_
          rintro e w4 ⟨⟨hm, rfl⟩ | ⟨hm, rfl⟩, rfl⟩
          · have HD3 : Hid (layL [] l = layL (acc ++ xs) (l.drop (j + 1)) ∧ (acc ++ xs).length ≤ 65536) := by
              have h9 := HD2.out
              rw [if_neg (by omega)] at h9
              exact ⟨h9.symm, by rw [List.length_append]; omega⟩
            go_wp2_with fail
            go_roundw
            case rel => exact ⟨j + 1, acc ++ xs, VB, vd, by rw [List.length_append, han, hxn], by go_num, by omega, HD3, by rw [List.length_append, han, hxn]; exact HO3.out, HK3.out⟩
            case measure => simp [intOf]; omega
          · have HT : Hid (layB (.mk c n k b l) = none) := by
              have h9 := HD2.out
              rw [if_pos (by omega)] at h9
              show _ = _
              unfold layB
              rw [← h9]
            have HKF := Lib.hid (HK.out.trans' HK3.out)
            go_wp2_with fail
            exact ⟨rfl, ⟨[], none, 0, .inr ⟨HT.out, rfl⟩⟩, HKF.out⟩
        · have HT : Hid (layB (.mk c n k b l) = none) := by
            have h9 := HD.out.1
            rw [show layL acc (x :: l.drop (j + 1)) = (match layB x with | none => none | some x => if 65536 < acc.length + x.length then none else layL (acc ++ x) (l.drop (j + 1))) from rfl, hlx] at h9
            show _ = _
            unfold layB
            rw [h9]
          have HKF := Lib.hid (HK.out.trans' ((HKR.out.alloc _).trans' hk2))
          clear hk2 hlx
          go_wp2_with fail
          exact ⟨rfl, ⟨[], none, 0, .inr ⟨HT.out, rfl⟩⟩, HKF.out⟩
      · obtain rfl : j = lb := by omega
        have HD2 : Hid (layL [] l = some acc) := by
          have h9 := HD.out.1
          rw [List.drop_of_length_le (by have := HL.out; omega)] at h9
          exact h9
        have hal := HD.out.2
        obtain ⟨z0, z1, z2, z3, z4⟩ := HF.out wr HKR.out
        have HBA := Lib.hid (BytesAt.of_own HOW.out)
        have HBB := Lib.hid (HB.out.grow (HK.out.trans' HKR.out))
        generalize han : acc.length = an at *
        clear HOW
        obtain ⟨tg, htg⟩ : ∃ tg : UInt8, n8 ((c * 64 + n + (if k then 32 else 0) : Nat) : Int) = tg := ⟨_, rfl⟩
        have HTG := Lib.hid (tagof_is c n k A B la ca j cb wr hcn.1 hcn.2)
        rw [htg] at HTG
        have HLN := Lib.hid (fun X => lengthof_is (la + an) X (by omega))
        rw [show ((la + an : Nat) : Int) = (la : Int) + (an : Int) by omega] at HLN
        obtain ⟨hl1, hl9⟩ := lenB_len (la + an)
        have HLB : Hid (layB (.mk c n k b l) = if 65536 < (lenB (la + an)).length + 1 + (la + an) then none else some (tg :: lenB (la + an) ++ b ++ acc)) := by
          show _ = _
          unfold layB
          rw [HD2.out]
          simp only []
          rw [HBL.out, han, htg]
        have hw0 := HK.out.size
        have hw1 := HKR.out.size
        generalize lenB (la + an) = ln at *
        clear HD HD2 htg
        go_wp2_with fail
        refine HTG.out.mono ?_
        rintro e w1 ⟨V, vd1, rfl, hov, hk1⟩
        have HV1 := Lib.hid (BytesAt.of_own hov)
        have HK1 := Lib.hid hk1
        clear hov hk1 HTG
        go_wp2_with fail
        refine (HLN.out w1).mono ?_
        rintro e w2 ⟨LA, ld, rfl, hbl2, hk2⟩
        have HV2 := Lib.hid (HV1.out.grow hk2)
        have HL2 := Lib.hid hbl2
        have HK2 := Lib.hid (HK1.out.trans' hk2)
        have hp : PartsAt (w2.alloc (.cells #[.slice V 1 vd1, .slice LA ln.length ld] 22)) (some ⟨w2.heap.size, 0, none⟩) 2 [⟨V, vd1, [tg]⟩, ⟨LA, ld, ln⟩] := row_parts (w := w2) [⟨V, vd1, [tg]⟩, ⟨LA, ld, ln⟩] (fun x hx => by
          rcases List.mem_cons.1 hx with hx | hx
          · subst hx; exact ⟨HV2.out, by simp⟩
          · rw [List.mem_singleton.1 hx]; exact ⟨hbl2, by show ln.length ≤ _; omega⟩)
        have HCC := Lib.hid (concat_is (some ⟨w2.heap.size, 0, none⟩) 2 2 _ _ hp (by decide) (by simp [total]; omega))
        rw [show flatP [⟨V, vd1, [tg]⟩, ⟨LA, ld, ln⟩] = tg :: ln by simp [flatP]] at HCC
        have HK2a := Lib.hid (HK2.out.alloc (.cells #[.slice V 1 vd1, .slice LA ln.length ld] 22))
        clear hbl2 hk2 hp HLN
        generalize hln : ln.length = lnn at *
        go_wp2_with fail
        refine HCC.out.mono ?_
        rintro e w3 ⟨HA, hd, rfl, ho3, hk3⟩
        have HB3 := Lib.hid (BytesAt.of_own ho3)
        have HK3 := Lib.hid (HK2a.out.trans' hk3)
        have hhl : (tg :: ln).length = lnn + 1 := by simp [hln]
        rw [hhl] at HB3
        rw [hhl]
        clear ho3 hk3 HCC hhl
        go_wp2_with fail
        refine (mustfit_is _ _).mono ?_
        have hq : wrap64 ((lnn : Int) + 1 + ((la : Int) + (an : Int))) = (lnn : Int) + 1 + ((la : Int) + (an : Int)) := by unfold wrap64; omega
        rintro e w4 ⟨⟨hm, rfl⟩ | ⟨hm, rfl⟩, rfl⟩ <;> (try rw [hq] at hm) <;> clear hq
        · have HLB2 : Hid (layB (.mk c n k b l) = some (tg :: ln ++ b ++ acc)) := by
            have h9 := HLB.out
            rw [if_neg (by omega)] at h9
            exact h9
          obtain ⟨q0, q1, q2, q3, q4⟩ := HF.out w3 (HKR.out.trans' HK3.out)
          have hp2 : PartsAt (w3.alloc (.cells #[.slice HA (lnn + 1) hd, .slice A la ca, .slice VA an vc] 22)) (some ⟨w3.heap.size, 0, none⟩) 3 [⟨HA, hd, tg :: ln⟩, ⟨A, ca, b⟩, ⟨VA, vc, acc⟩] := by
            have h9 := row_parts (w := w3) [⟨HA, hd, tg :: ln⟩, ⟨A, ca, b⟩, ⟨VA, vc, acc⟩] (fun x hx => by
              simp only [List.mem_cons, List.not_mem_nil, or_false] at hx
              rcases hx with hx | hx | hx
              · subst hx
                refine ⟨?_, by simp; omega⟩
                have h8 := HB3.out
                show BytesAt w3 (.slice HA (tg :: ln).length hd) (tg :: ln)
                rw [List.length_cons, hln]
                exact h8
              · subst hx
                refine ⟨?_, by show b.length ≤ _; have := HBL.out; omega⟩
                show BytesAt w3 (.slice A b.length ca) b
                rw [HBL.out]
                exact HBB.out.grow HK3.out
              · subst hx
                refine ⟨?_, by show acc.length ≤ _; omega⟩
                show BytesAt w3 (.slice VA acc.length vc) acc
                rw [han]
                exact HBA.out.grow HK3.out)
            simp only [List.map_cons, List.map_nil, List.length_cons, HBL.out, han, hln] at h9
            exact h9
          have HCC := Lib.hid (concat_is (some ⟨w3.heap.size, 0, none⟩) 3 3 _ _ hp2 (by decide) (by simp [total, HBL.out, han, hln]; omega))
          rw [show flatP [⟨HA, hd, tg :: ln⟩, ⟨A, ca, b⟩, ⟨VA, vc, acc⟩] = tg :: ln ++ b ++ acc by simp [flatP]] at HCC
          have HK3a := Lib.hid ((HK.out.trans' (HKR.out.trans' HK3.out)).alloc (.cells #[.slice HA (lnn + 1) hd, .slice A la ca, .slice VA an vc] 22))
          clear hp2 q0 q1 q2 q4
          go_wp2_with fail
          refine HCC.out.mono ?_
          rintro e w5 ⟨RA, rd, rfl, ho5, hk5⟩
          have HB5 := Lib.hid (BytesAt.of_own ho5)
          have HK5 := Lib.hid (HK3a.out.trans' hk5)
          clear ho5 hk5 HCC
          go_wp2_with fail
          go_ret
          have hlen : (tg :: ln ++ b ++ acc).length = lnn + (b.length + an) + 1 := by simp [hln, han]
          refine ⟨⟨_, RA, rd, .inl ⟨HLB2.out, ?_, HB5.out⟩⟩, HK5.out⟩
          rw [hlen]
          rfl
        · have HT : Hid (layB (.mk c n k b l) = none) := by
            have h9 := HLB.out
            rw [if_pos (by omega)] at h9
            exact h9
          have HKF := Lib.hid (HK.out.trans' (HKR.out.trans' HK3.out))
          go_wp2_with fail
          exact ⟨rfl, ⟨[], none, 0, .inr ⟨HT.out, rfl⟩⟩, HKF.out⟩

end Go.Proofs.Ytnengckecooohaa
/- ber: laid. -/
namespace Go.Proofs.Ytnengckecooohaa
open Go.RowKit Go.Shelf
set_option linter.unusedVariables false
set_option linter.unusedSimpArgs false
set_option maxRecDepth 100000

theorem laid_is (t : BV) (h : BH) (w : World) (hf : fineB t = true) (ht : BerAt w t h) : Calls Try.prog 37 #[h.val] w (LayQ t w) := by
  have hmf : ∀ (fn : Fn) (first cap : Array Value) (w : World), (Instr.makeFunc fn first cap).run Try.prog w = .ok (.func fn first cap) w := fun _ _ _ _ => rfl
  have HL := Lib.hid (fun p X (hk : Keeps [] w X) hp => lay_is t h p X hf (BerAt.grow hk t h ht) hp)
  obtain ⟨c, n, k, A, la, ca, B, lb, cb⟩ := h
  clear ht
  unfold BH.val
  go_enter Try.func37, Try.ntmps37
  go_wp2_with fail
  refine (HL.out (w.heap.size + 1) _ (((Keeps.refl [] w).alloc _).alloc _) (by simp [go_sem])).mono ?_
  rintro e w2 ⟨⟨xs, A2, d2, ⟨hd, rfl, hb⟩ | ⟨hd, rfl⟩⟩, hk⟩
  · have HK := Lib.hid ((((Keeps.refl [] w).alloc _).alloc _).trans' hk)
    have HB := Lib.hid hb
    have HD := Lib.hid hd
    clear hk hb hd
    go_wp2_with fail
    go_ret
    exact ⟨⟨xs, A2, d2, .inl ⟨HD.out, rfl, HB.out⟩⟩, HK.out⟩
  · have HK := Lib.hid ((((Keeps.refl [] w).alloc _).alloc _).trans' hk)
    clear hk
    go_wp2_with fail
    exact ⟨rfl, ⟨[], none, 0, .inr ⟨hd, rfl⟩⟩, HK.out⟩

end Go.Proofs.Ytnengckecooohaa
/- ber: bytes taken off. -/
namespace Go.Proofs.Ytnengckecooohaa
open Go.RowKit Go.Shelf
set_option linter.unusedVariables false
set_option linter.unusedSimpArgs false
set_option maxRecDepth 100000
attribute [local go_sem] Oper.semAt_some

theorem numI_is (a : Int) (A : Option Addr) (n c : Nat) (xs : List UInt8) (w : World) (ha : -9223372036854775808 ≤ a ∧ a ≤ 9223372036854775807) (hl : xs.length = n) (hn : n ≤ 9223372036854775807) (hb : BytesAt w (.slice A n c) xs) :
    Calls Try.prog 71 #[.int .i64 a, .slice A n c] w fun e w' => e = .returned (.int .i64 (numZ a xs)) ∧ w = w' := by
  have HB := Lib.hid hb
  have HL := Lib.hid hl
  clear hb hl
  go_enter Try.func71, Try.ntmps71
  go_wp2_with fail
  go_loopw [0, 6, 9] (fun v u i wr => ∃ (j : Nat) (x : Int), v = .int .i64 x ∧ i = .int .i64 (j : Int) ∧ j ≤ n ∧ (-9223372036854775808 ≤ x ∧ x ≤ 9223372036854775807) ∧ Hid (numZ x (xs.drop j) = numZ a xs) ∧ wr = w) (fun _ _ i _ => n - (intOf i).toNat)
  case atStart => exact ⟨0, a, rfl, rfl, Nat.zero_le _, ha, rfl, rfl⟩
  case round =>
    obtain ⟨j, x, rfl, rfl, hj, hx, HI, rfl⟩ := hrel
    by_cases hlt : j < n
    · obtain ⟨b, o, rfl, hc⟩ := bytes_addr HB.out (by omega)
      obtain ⟨u, hu⟩ : ∃ u, xs[j]? = some u := ⟨_, List.getElem?_eq_getElem (by have := HL.out; omega)⟩
      have hcu := hc j u hu
      obtain ⟨z1, z2, z3⟩ := wrap64_256 x
      have hul : u.toNat < 256 := u.toNat_lt
      have hor : bits BinOp.or IntKind.i64 (wrap64 (x * 256)) (u.toNat : Int) = wrap64 (x * 256) + (u.toNat : Int) := i64_or_low _ _ z1 z2 z3 (by omega) (by omega)
      have hwu : wrap64 (u.toNat : Int) = (u.toNat : Int) := by unfold wrap64; omega
      have HN : Hid (numZ (wrap64 (x * 256) + (u.toNat : Int)) (xs.drop (j + 1)) = numZ a xs) := by
        have h := HI.out
        rw [List.drop_eq_getElem_cons (by have := HL.out; omega), show xs[j]'(by have := HL.out; omega) = u by rw [List.getElem?_eq_getElem (by have := HL.out; omega)] at hu; injection hu] at h
        exact h
      have hbound : -9223372036854775808 ≤ wrap64 (x * 256) + (u.toNat : Int) ∧ wrap64 (x * 256) + (u.toNat : Int) ≤ 9223372036854775807 := by omega
      have HB2 := Lib.hid hbound
      have HOR := Lib.hid hor
      clear hc hor hbound z1 z2 z3
      go_wp2_with fail
      first | rw [hwu, HOR.out] | rw [HOR.out]
      go_roundw
      case rel => exact ⟨j + 1, _, rfl, by go_num, by omega, HB2.out, HN, trivial⟩
      case measure => simp [intOf]; omega
    · obtain rfl : j = n := by omega
      have he := HI.out
      rw [List.drop_of_length_le (by have := HL.out; omega)] at he
      have HE := Lib.hid he
      clear he
      go_wp2_with fail
      go_ret
      exact ⟨by rw [← HE.out]; rfl, rfl⟩
theorem slice_fromR (A : Option Addr) (n c at_ : Nat) (xs : List UInt8) (hn : xs.length = n) (hnc : n ≤ c) (hcm : c ≤ 9223372036854775807) (ha : at_ ≤ n) (hA : 0 < n → ∃ b o, A = some ⟨b, o, none⟩) :
    ∃ B d, (∀ W, (Instr.slice 82 (.slice A n c) (some (.int .i64 (at_ : Int))) none none).run Try.prog W = .ok (.slice B (n - at_) d) W) ∧ (∀ W, BytesAt W (.slice A n c) xs → BytesAt W (.slice B (n - at_) d) (xs.drop at_)) ∧ (∀ a', B = some a' → ∃ a, A = some a ∧ a'.block = a.block) := by
  have hr : ∀ W, (Instr.slice 82 (.slice A n c) (some (.int .i64 (at_ : Int))) none none).run Try.prog W = .ok (.slice (if c = at_ then A else A.map (·.add at_)) (n - at_) (c - at_)) W := by
    intro W
    rw [run_slice_l W 82 A n c (by simp [Program.elem, Try.underlying82]) .i64 _ (by omega) (by omega)]
    rw [show Try.prog.elem 82 = 5 by simp [Program.elem, Try.underlying82], Try.sizeOf5]
    simp [Result.andThen, sliced]
  refine ⟨_, _, hr, fun W hb => ?_, fun a' ha' => ?_⟩
  case refine_2 =>
    split at ha'
    · exact ⟨a', ha', rfl⟩
    · cases A with
      | none => simp at ha'
      | some a =>
        simp at ha'
        refine ⟨a, rfl, ?_⟩
        rw [← ha']
        unfold Addr.add
        split <;> rfl
  obtain ⟨A', c', he, h1, h2, h3⟩ := hb
  injection he with e1 e2 e3
  subst e1 e3
  refine ⟨_, _, by rw [List.length_drop, hn], by rw [List.length_drop]; omega, by omega, fun hp => ?_⟩
  rw [List.length_drop] at hp
  obtain ⟨b, o, rfl, hc⟩ := h3 (by omega)
  refine ⟨b, o + at_, ?_, fun i u hu => ?_⟩
  · rw [if_neg (by omega)]
    simp [add_at]
  · rw [List.getElem?_drop] at hu
    have := hc (at_ + i) u hu
    rwa [← Nat.add_assoc] at this


theorem take_no (r : Nat) (A : Option Addr) (m c n : Nat) (w : World) (hc : w.cell? ⟨r, 0, none⟩ = some (.slice A m c)) (hn : m < n) :
    Calls Try.prog 61 #[.pointer (some ⟨r, 0, none⟩), .int .i64 (n : Int)] w fun e w' => e = gaveUp 151 ∧ w = w' := by
  have h : (m : Int) < (n : Int) := by omega
  go_enter Try.func61, Try.ntmps61
  go_wp2_with fail
  exact ⟨rfl, rfl, rfl⟩

theorem take_yes (r : Nat) (A : Option Addr) (m c n : Nat) (xs : List UInt8) (w : World) (hc : w.cell? ⟨r, 0, none⟩ = some (.slice A m c)) (hf : w.frozen? ⟨r, 0, none⟩ = false) (hl : xs.length = m) (hb : BytesAt w (.slice A m c) xs) (hn : n ≤ m) (hA : ∀ a, A = some a → a.block ≠ r) :
    Calls Try.prog 61 #[.pointer (some ⟨r, 0, none⟩), .int .i64 (n : Int)] w fun e w' => ∃ C f, e = .returned (.slice A n c) ∧ w' = w.setCell ⟨r, 0, none⟩ (.slice C (m - n) f) ∧ BytesAt w' (.slice A n c) (xs.take n) ∧ BytesAt w' (.slice C (m - n) f) (xs.drop n) ∧ (∀ a, C = some a → ∃ a2, A = some a2 ∧ a.block = a2.block) := by
  have hcap : m ≤ c ∧ c ≤ 9223372036854775807 := by obtain ⟨A', c', he, h2, h3⟩ := hb; injection he with _ h4 h5; unfold maxLen at h3; omega
  have hA2 : 0 < m → ∃ b o, A = some ⟨b, o, none⟩ := fun h => by
    obtain ⟨b, o, h1, _⟩ := bytes_addr hb h
    exact ⟨b, o, h1⟩
  obtain ⟨C, f, hsl, hsb, hsa⟩ := slice_fromR A m c n xs hl hcap.1 hcap.2 hn hA2
  have h1 : ¬ (m : Int) < (n : Int) := by omega
  have h2 : ¬ (c : Int) < (n : Int) := by omega
  have HF : Hid (∀ W, Keeps [r] w W → BytesAt W (.slice A n c) (xs.take n) ∧ BytesAt W (.slice C (m - n) f) (xs.drop n)) := fun W hk => by
    have h9 : BytesAt W (.slice A m c) xs := hb.keep hk (fun b hb' hm => by
      cases A with
      | none => simp [Value.ownBlock] at hb'
      | some a =>
        simp [Value.ownBlock] at hb'
        exact hA a rfl (by rw [hb']; exact List.mem_singleton.1 hm))
    refine ⟨?_, hsb W h9⟩
    rcases Nat.eq_zero_or_pos m with h0 | h0
    · have hn0 : n = 0 := by omega
      subst hn0
      refine ⟨A, c, rfl, by simp, by unfold maxLen; omega, fun h => by simp at h⟩
    · obtain ⟨b, o, rfl⟩ := hA2 h0
      have h := h9.part (i := 0) (m := n) (by omega) hl
      simpa using h
  have HCA := Lib.hid hsa
  clear hsb hb hA hA2 hl hsa
  go_enter Try.func61, Try.ntmps61
  go_wp2_with fail
  go_ret
  exact ⟨rfl, C, f, rfl, (HF.out _ ((Keeps.refl _ _).setCell (.inl (by simp)) _)).1, (HF.out _ ((Keeps.refl _ _).setCell (.inl (by simp)) _)).2, HCA.out⟩

theorem frozen_alloc8 (w : World) (o : Obj) (p : Addr) (h : p.block < w.heap.size) : (w.alloc o).frozen? p = w.frozen? p := by
  unfold World.frozen?
  rw [Below.heap_alloc w o p.block h]
/-- What is still to be read lies at a reader's head. -/
structure RestAt (w : World) (r : Nat) (xs : List UInt8) (A : Option Addr) (m c : Nat) : Prop where
  cell : w.cell? ⟨r, 0, none⟩ = some (.slice A m c)
  free : w.frozen? ⟨r, 0, none⟩ = false
  len : xs.length = m
  bytes : BytesAt w (.slice A m c) xs
  apart : ∀ a, A = some a → a.block ≠ r

end Go.Proofs.Ytnengckecooohaa
