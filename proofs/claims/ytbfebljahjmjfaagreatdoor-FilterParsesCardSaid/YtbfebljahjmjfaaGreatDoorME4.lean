/- Texts of one proof, laid together: F9 F10. -/
import Derived.Test.YtbfebljahjmjfaaGreatDoorME3
import Derived.BigQuiet
/- filter: sound's through; walked. -/
namespace Go.Proofs.YtbfebljahjmjfaaGreatDoor
open Go.RowKit Go.Shelf
set_option linter.unusedVariables false
set_option linter.unusedSimpArgs false
set_option maxRecDepth 100000

theorem fil_info8 : (Tryz.prog.info? 26).map (fun i => (i.zero, i.size, i.bytes)) = some (some (.agg #[.int .i64 0, .slice none 0 0, .string ⟨#[]⟩, .string ⟨#[]⟩]), 4, 64) := by kernel_rfl
theorem thrF_none {ok : FV → Bool} {d m : Nat} {k : Int} {l : List FV} {s v : Txt} (h : ¬ (m < 200 ∧ d ≤ 16)) : thruF ok d m (.mk k l s v) = none := by
  unfold thruF
  rw [if_neg h]
theorem thrF_in {ok : FV → Bool} {d m : Nat} {k : Int} {l : List FV} {s v : Txt} (h : m < 200 ∧ d ≤ 16) : thruF ok d m (.mk k l s v) = match thruL ok (d + 1) (m + 1) l with | none => none | some n => if ok (.mk k l s v) = true then some n else none := by
  unfold thruF
  rw [if_pos h]
  cases thruL ok (d + 1) (m + 1) l <;> rfl
theorem boxes_on {w wr w7 w8 : World} {gm n c j : Nat} {A : Option Addr} {xs : List Value} {o : Obj} {b : Nat} (hr : wr.ownsRow (w.heap.size + 2) 26 4 (.slice A j c) n xs) (k : Keeps [gm] wr w7) (hg : w7.grownBy w8 (Value.slice A j c).ownBlock) (hb : b < w.heap.size + 2) (hne : b ≠ gm) (h : wr.heap[b]? = some o) : w8.heap[b]? = some o :=
  blk_keep (blk_keep h k (by simpa using hne)) (Keeps.of_grown (bs := (Value.slice A j c).ownBlock.toList) hg (fun x hx => .inl (by rw [hx]; simp))) (fun hm => by have := (hr.lt b (by simpa using hm)).1; omega)
set_option maxHeartbeats 16000000 in
theorem thrF_is (gp gx gw gm gn g2 : Nat) (no : Int) (w0 : World) (hgm0 : w0.heap.size ≤ gm) (h2m : g2 ≠ gm) : ∀ (t : FV) (d m : Nat) (h : FH) (w : World), d ≤ 17 → m ≤ 200 → FilAt w0 t h → Keeps [] w0 w →
    EnvF gp gx gw gm gn 132 (.func (.func 77) #[] #[.pointer (some ⟨g2, 0, none⟩)]) w → w.cell? ⟨g2, 0, none⟩ = some (.int .i64 no) → PassAt w gm gn m no →
    Calls Tryz.prog 132 #[h.val, .int .i64 (d : Int), .pointer (some ⟨gp, 0, none⟩), .pointer (some ⟨gx, 0, none⟩), .pointer (some ⟨gw, 0, none⟩)] w (ThrQ no d m t gm gn w) := by
  obtain ⟨iu, hiu, hzu0, hzu1, hzu2⟩ := info_parts fil_info8
  intro t
  induction t using FV.ind with
  | h k l s v ih =>
    intro d m h w hd hm ht hk0 hE hno hP
    have IH := Lib.hid ih
    have hgmw := lt_of_heap hP.many
    have hgnw := lt_of_heap hP.no
    have HPS := Lib.hid (fun X hX => pass8_is d gm gn m no X (by omega) (by omega) hX)
    obtain ⟨rfl, rfl, rfl, h4, h5, h6, h7, h8, h9, h10, h11⟩ := ht
    obtain ⟨k, B, lb, cb, s, v⟩ := h
    have hl : l.length = lb := h8
    have hlb : lb ≤ 9223372036854775807 := Nat.le_trans h9 h10
    dsimp only at h6 h7
    have HSL : Hid (s.length ≤ 9223372036854775807 ∧ v.length ≤ 9223372036854775807) := ⟨h6, h7⟩
    have HKI : Hid (-9223372036854775808 ≤ k ∧ k ≤ 9223372036854775807) := ⟨h4, h5⟩
    have HI := Lib.hid h11
    have HL := Lib.hid hl
    have HK0 := Lib.hid hk0
    have HE := Lib.hid hE
    have HNO := Lib.hid hno
    have HP := Lib.hid hP
    have HB1 := Lib.hid (heap_new8 w (.cells #[.int .i64 k, .slice B lb cb, .string ⟨s.toArray⟩, .string ⟨v.toArray⟩] 26))
    have hka : Keeps [] w (w.alloc (.cells #[.int .i64 k, .slice B lb cb, .string ⟨s.toArray⟩, .string ⟨v.toArray⟩] 26)) := (Keeps.refl [] w).alloc _
    have HKB : Hid (Keeps [] w ((w.alloc (.cells #[.int .i64 k, .slice B lb cb, .string ⟨s.toArray⟩, .string ⟨v.toArray⟩] 26)).alloc (.cells #[.int .i64 0, .slice none 0 0, .string ⟨#[]⟩, .string ⟨#[]⟩] 26))) := hka.alloc _
    have HB2 := Lib.hid (blk_keep HB1.out ((Keeps.refl [] _).alloc (.cells #[.int .i64 0, .slice none 0 0, .string ⟨#[]⟩, .string ⟨#[]⟩] 26)) (by simp))
    have HR2 := Lib.hid (heap_new8 (w.alloc (.cells #[.int .i64 k, .slice B lb cb, .string ⟨s.toArray⟩, .string ⟨v.toArray⟩] 26)) (.cells #[.int .i64 0, .slice none 0 0, .string ⟨#[]⟩, .string ⟨#[]⟩] 26))
    rw [World.size_alloc] at HR2
    have HZ : Hid (w.heap.size + 2 ≤ ((w.alloc (.cells #[.int .i64 k, .slice B lb cb, .string ⟨s.toArray⟩, .string ⟨v.toArray⟩] 26)).alloc (.cells #[.int .i64 0, .slice none 0 0, .string ⟨#[]⟩, .string ⟨#[]⟩] 26)).heap.size) := by show _ ≤ _; simp
    clear h4 h5 h6 h7 h8 h9 h10 h11 hl hk0 hE hno hP hka ih
    unfold FH.val tv
    dsimp only
    have HEW := HE.out.keep (HKB.out.mono (cs := [gm]) (by simp))
    obtain ⟨e1, e2, e3, _, _, _⟩ := HEW
    go_enter Tryz.func132, Tryz.ntmps132
    go_wp2_with fail
    have HP1 := Lib.hid (HP.out.keep HKB.out (by simp) (by simp))
    generalize (w.alloc (.cells #[.int .i64 k, .slice B lb cb, .string ⟨s.toArray⟩, .string ⟨v.toArray⟩] 26)).alloc (.cells #[.int .i64 0, .slice none 0 0, .string ⟨#[]⟩, .string ⟨#[]⟩] 26) = W1 at HKB HB2 HR2 HZ HP1 e1 e2 e3 ⊢
    refine (HPS.out W1 HP1.out).mono ?_
    rintro e w2 ⟨⟨hc, rfl⟩ | ⟨hc, rfl⟩, hp2, hk2⟩
    rotate_left
    · have HK2 := Lib.hid ((HKB.out.mono (cs := [gm]) (by simp)).trans' hk2)
      clear hk2 hp2
      go_wp2_with fail
      exact ⟨rfl, .inr ⟨thrF_none hc, rfl⟩, HK2.out⟩
    · have HC := Lib.hid hc
      have HK2 := Lib.hid ((HKB.out.mono (cs := [gm]) (by simp)).trans' hk2)
      have HB3 := Lib.hid (blk_keep HB2.out hk2 (by simp; omega))
      have HR3 := Lib.hid (blk_keep HR2.out hk2 (by simp; omega))
      have HS0 : Hid (ThrS w w2 gm gn no d m l 0 none 0 [] (m + 1)) := ⟨by simp [thruL], hp2, World.ownsRow_nil _ _ _ _, rfl, by simp, HK2.out, Nat.le_trans HZ.out hk2.size⟩
      obtain ⟨⟨z0, z1, z2, z3⟩, _⟩ := four_facts8 HB3.out
      clear hc hk2 hp2 e1 e2 e3
      go_wp2_with fail
      go_loopw [8, 17] (fun a i wr => ∃ (A : Option Addr) (j c n : Nat) (hs : List FH), a = .slice A j c ∧ i = .int .i64 (j : Int) ∧ j ≤ lb ∧ Hid (ThrS w wr gm gn no d m l j A c hs n) ∧ Hid (wr.heap[w.heap.size]? = some (.cells #[.int .i64 k, .slice B lb cb, .string ⟨s.toArray⟩, .string ⟨v.toArray⟩] 26 (0, 0))) ∧ Hid (wr.heap[w.heap.size + 1]? = some (.cells #[.int .i64 0, .slice none 0 0, .string ⟨#[]⟩, .string ⟨#[]⟩] 26 (0, 0)))) (fun _ i _ => lb - (intOf i).toNat)
      case atStart => exact ⟨none, 0, 0, m + 1, [], rfl, rfl, Nat.zero_le _, HS0.out, HB3.out, HR3.out⟩
      clear z0 z1 z2 z3
      case round =>
        obtain ⟨A, j, c, n, hs, rfl, rfl, hj, HS, HBX, HRX⟩ := hrel
        have hn200 := (thruL_le aloneF _ _ _ _ HS.out.cnt).2 (by have := HC.out.1; omega)
        have hjn : j ≤ 200 := by
          have h8 := (thruL_le aloneF _ _ _ _ HS.out.cnt).1
          rw [List.length_take, HL.out, Nat.min_eq_left hj] at h8
          omega
        have HKW : Hid (Keeps [] w0 wr) := HK0.out.trans HS.out.keep (fun x hx => .inr (by rw [List.mem_singleton.1 hx]; exact hgm0))
        have hgr := lt_of_heap HS.out.pass.many
        by_cases hlt : j < lb
        · have hx : l[j]? = some (l[j]'(by have := HL.out; omega)) := List.getElem?_eq_getElem _
          obtain ⟨b9, o1, hh, rfl, hc0, hat⟩ := HI.out.at_ j _ hx
          rw [Nat.zero_add] at hc0
          have hc9 : ∀ q u, (FH.list hh)[q]? = some u → wr.cell? ⟨b9, o1 + j * 4 + q, none⟩ = some u := fun q u hu => (HKW.out.cell (lt_of_cell (hc0 q u hu)) (by simp)).trans (hc0 q u hu)
          obtain ⟨g0, g1, g2', g3⟩ := four_at hc9
          have hmem : (l[j]'(by have := HL.out; omega)) ∈ l := List.getElem_mem _
          generalize hxx : l[j]'(by have := HL.out; omega) = x at *
          obtain ⟨k', B', lb', cb', s', v'⟩ := hh
          have HXX := Lib.hid hx
          have HREC : Hid (∀ X, Keeps [] wr X → Calls Tryz.prog 132 #[.agg #[.int .i64 k', .slice B' lb' cb', .string ⟨s'.toArray⟩, .string ⟨v'.toArray⟩], .int .i64 ((d : Int) + 1), .pointer (some ⟨gp, 0, none⟩), .pointer (some ⟨gx, 0, none⟩), .pointer (some ⟨gw, 0, none⟩)] X (ThrQ no (d + 1) n x gm gn X)) := fun X hX => by
            have h9 := IH.out x hmem (d + 1) n ⟨k', B', lb', cb', s', v'⟩ X (by have := HC.out.2; omega) hn200 hat (HKW.out.trans' hX) (HE.out.keep (HS.out.keep.trans hX (by simp))) (((HS.out.keep.trans hX (by simp)).cell (p := ⟨g2, 0, none⟩) (lt_of_cell HNO.out) (by simpa using h2m)).trans HNO.out) (HS.out.pass.keep hX (by simp) (by simp))
            rw [show ((d + 1 : Nat) : Int) = (d : Int) + 1 by omega] at h9
            exact h9
          obtain ⟨e1, e2, e3, _, _, _⟩ := HE.out.keep (HS.out.keep.trans ((Keeps.refl [] wr).alloc (.cells #[.int .i64 k', .slice B' lb' cb', .string ⟨s'.toArray⟩, .string ⟨v'.toArray⟩] 26)) (by simp))
          have hw : IntKind.i64.wrap ((d : Int) + 1) = ((d : Int) + 1) := IntWalk.i64_in _ (by have := HC.out.2; omega)
          have hji : (j : Int) < (lb : Int) := by omega
          have hj0 : (0 : Int) ≤ (j : Int) := by omega
          clear hx hat hc0 hc9 hxx hmem
          go_wp2_with fail
          refine (HREC.out _ ((Keeps.refl [] wr).alloc _)).mono ?_
          rintro e w6 ⟨⟨n', h', hn', rfl, hp6, hr6⟩ | ⟨hn', rfl⟩, hk6⟩
          · have HN6 := Lib.hid hn'
            have HP6 := Lib.hid hp6
            have HR6 := Lib.hid hr6
            have HK6 := Lib.hid hk6
            obtain ⟨k6, B6, lb6, cb6, s6, v6⟩ := h'
            unfold FH.val tv
            dsimp only
            have HK7 : Hid (Keeps [gm] wr (w6.alloc (.cells #[.int .i64 k6, .slice B6 lb6 cb6, .string ⟨s6.toArray⟩, .string ⟨v6.toArray⟩] 26))) := (((Keeps.refl [] wr).alloc _).mono (cs := [gm]) (by simp)).trans' hk6 |>.alloc _
            have HROW : Hid ((w6.alloc (.cells #[.int .i64 k6, .slice B6 lb6 cb6, .string ⟨s6.toArray⟩, .string ⟨v6.toArray⟩] 26)).ownsRow (w.heap.size + 2) 26 4 (.slice A j c) j (headsF hs)) := own_keep HS.out.row HK7.out (fun b hb hm => by have := (HS.out.row.lt b hb).1; simp at hm; omega)
            have HSZ : Hid (w.heap.size + 2 ≤ (w6.alloc (.cells #[.int .i64 k6, .slice B6 lb6 cb6, .string ⟨s6.toArray⟩, .string ⟨v6.toArray⟩] 26)).heap.size) := Nat.le_trans HS.out.siz HK7.out.size
            clear hn' hp6 hr6 hk6 g0 g1 g2' g3 e1 e2 e3
            go_wp2_with (at_builtin; refine wpList_append_opt rfl (.tmp 21) (.tmp 27) 24 rfl (w.heap.size + 2) 26 iu _ 4 64 Tryz.underlying24 hiu hzu0 hzu1 hzu2 rfl (by decide) (.slice A j c) j (headsF hs) rfl HROW.out (some ⟨w6.heap.size, 0, none⟩) 1 1 (FH.list ⟨k6, B6, lb6, cb6, s6, v6⟩) rfl rfl (src_one8 w6 ⟨k6, B6, lb6, cb6, s6, v6⟩ _) (by intro u hu; simp [FH.list, tv] at hu; rcases hu with rfl | rfl | rfl | rfl <;> rfl) (by unfold maxLen; omega) (by omega) HSZ.out ?_; intro v8 w8 ho hg8 hs8; obtain ⟨A8, c8, hv8⟩ := own_slice ho; subst hv8; have HY := Lib.hid (HS.out.step hgmw hgnw HXX.out ((Keeps.refl [] wr).alloc _) HN6.out HK6.out HP6.out HR6.out ((Keeps.refl [] w6).alloc _) ho hg8 hs8); have HBX8 := Lib.hid (boxes_on HS.out.row HK7.out hg8 (by omega) (by omega) HBX.out); have HRX8 := Lib.hid (boxes_on HS.out.row HK7.out hg8 (by omega) (by omega) HRX.out); clear ho hg8 hs8)
            go_roundw
            case rel => exact ⟨A8, j + 1, c8, n', _, rfl, by go_num, by omega, HY.out, HBX8.out, HRX8.out⟩
            case measure => simp [intOf]; omega
          · have HT : Hid (thruF aloneF d m (.mk k l s v) = none) := by
              show _ = _
              rw [thrF_in HC.out]
              have h8 : thruL aloneF (d + 1) (m + 1) (l.take (j + 1)) = none := by
                rw [List.take_add_one, HXX.out]
                show thruL _ _ _ (l.take j ++ [x]) = none
                rw [thruL_snoc, HS.out.cnt]
                exact hn'
              have h7 := thruL_none aloneF (d + 1) (l.take (j + 1)) (l.drop (j + 1)) (m + 1) h8
              rw [List.take_append_drop] at h7
              rw [h7]
            have HK9 := Lib.hid ((HS.out.keep.trans ((Keeps.refl [] wr).alloc (.cells #[.int .i64 k', .slice B' lb' cb', .string ⟨s'.toArray⟩, .string ⟨v'.toArray⟩] 26)) (by simp)).trans' hk6)
            clear hk6 hn' g0 g1 g2' g3 e1 e2 e3
            go_wp2_with fail
            exact ⟨rfl, .inr ⟨HT.out, rfl⟩, HK9.out⟩
        · obtain rfl : j = lb := by omega
          have htl : l.take j = l := List.take_of_length_le (by rw [HL.out]; exact Nat.le_refl _)
          have HCN : Hid (thruF aloneF d m (.mk k l s v) = if aloneH k j s v = true then some n else none) := by
            have h8 := HS.out.cnt
            rw [htl] at h8
            show _ = _
            rw [thrF_in HC.out, h8, aloneF_is, HL.out]
          have HCS := Lib.hid (fun X (hX : Keeps [] wr X) => soundc_is ⟨k, B, j, cb, s, v⟩ A j c g2 no X HSL.out.1 HSL.out.2 (((HS.out.keep.trans hX (by simp)).cell (p := ⟨g2, 0, none⟩) (lt_of_cell HNO.out) (by simpa using h2m)).trans HNO.out))
          obtain ⟨e1, e2, e3, _, _, _⟩ := HE.out.keep HS.out.keep
          obtain ⟨⟨z0, z1, z2, z3⟩, _⟩ := four_facts8 HBX.out
          unfold FH.val tv at HCS
          dsimp only at HCS
          go_wp2_with fail
          refine (HCS.out wr (Keeps.refl _ _)).mono ?_
          rintro e w3 ⟨⟨ha, rfl⟩ | ⟨ha, rfl⟩, hk3⟩
          · have HT : Hid (thruF aloneF d m (.mk k l s v) = some n) := by show _ = _; rw [HCN.out, if_pos ha]
            have HK3 := Lib.hid hk3
            have HR5 := Lib.hid (blk_keep HRX.out hk3 (by simp))
            obtain ⟨⟨r0, r1, r2, r3⟩, s0, s1, s2, s3⟩ := four_facts8 HR5.out
            obtain ⟨R, hR⟩ : ∃ R, w.heap.size + 1 = R := ⟨_, rfl⟩
            have HRR := Lib.hid hR
            rw [hR] at HR5 r0 r1 r2 r3 s0 s1 s2 s3 ⊢
            generalize hz : smallL s = z
            have HZ9 := Lib.hid hz
            clear ha hk3 hR hz e1 e2 e3 z0 z1 z2 z3
            go_wp2_with fail
            have HR6 := heap_setCell_same _ R 0 _ _ (.int .i64 k) HR5.out
            have HR7 := heap_setCell_same _ R 1 _ _ (.slice A j c) HR6
            have HR8 := heap_setCell_same _ R 2 _ _ (.string ⟨z.toArray⟩) HR7
            have HR9 := heap_setCell_same _ R 3 _ _ (.string ⟨v.toArray⟩) HR8
            refine bodyPost_ret (results_cell_row rfl _ _ R _ #[.int .i64 k, .slice A j c, .string ⟨z.toArray⟩, .string ⟨v.toArray⟩] (0, 0) _ rfl HR9 Tryz.underlying26 rfl (by kernel_rfl)) rfl ?_
            have k9 : Keeps [R] w3 ((((w3.setCell ⟨R, 0, none⟩ (.int .i64 k)).setCell ⟨R, 1, none⟩ (.slice A j c)).setCell ⟨R, 2, none⟩ (.string ⟨z.toArray⟩)).setCell ⟨R, 3, none⟩ (.string ⟨v.toArray⟩)) := ((((Keeps.refl [R] w3).setCell (.inl (by simp)) _).setCell (.inl (by simp)) _).setCell (.inl (by simp)) _).setCell (.inl (by simp)) _
            have hRe := HRR.out
            have kw : Keeps [R] wr ((((w3.setCell ⟨R, 0, none⟩ (.int .i64 k)).setCell ⟨R, 1, none⟩ (.slice A j c)).setCell ⟨R, 2, none⟩ (.string ⟨z.toArray⟩)).setCell ⟨R, 3, none⟩ (.string ⟨v.toArray⟩)) := (HK3.out.mono (cs := [R]) (by simp)).trans' k9
            refine ⟨.inl ⟨n, ⟨k, A, j, c, z, v⟩, HT.out, rfl, HS.out.pass.keep kw (by simp; omega) (by simp; omega), fun E X hE hk => ?_⟩, HS.out.keep.trans kw (fun x hx => .inr (by rw [List.mem_singleton.1 hx]; omega))⟩
            have kX : Keeps (R :: E) wr X := (kw.mono (cs := R :: E) (by simp)).trans hk (fun x hx => .inl (List.mem_cons_of_mem _ hx))
            have hrow := own_keep HS.out.row kX (fun b hb hm => by
              have := (HS.out.row.lt b hb).1
              rcases List.mem_cons.1 hm with hm | hm
              · omega
              · have := hE b hm; omega)
            have hcap := cap_of_own hrow
            have hlf : (lowFL l).length = j := by rw [lowFL_map, List.length_map]; exact HL.out
            simp only [lowF]
            refine ⟨rfl, HZ9.out.symm, rfl, HKI.out.1, HKI.out.2, by rw [smallL_len]; exact HSL.out.1, HSL.out.2, hlf, hcap.1, hcap.2, fils_own hrow HS.out.hsl hlf (fun i t' h' ht' hh' => ?_)⟩
            rw [lowFL_map, List.getElem?_map] at ht'
            cases hq : l[i]? with
            | none => rw [hq] at ht'; cases ht'
            | some t0 =>
              rw [hq] at ht'
              simp at ht'
              subst ht'
              refine HS.out.items (R :: E) X (fun x hx => ?_) kX i t0 h' (by rw [htl]; exact hq) hh'
              rcases List.mem_cons.1 hx with hx | hx
              · exact .inl (by omega)
              · exact .inl (by have := hE x hx; omega)
          · have HT : Hid (thruF aloneF d m (.mk k l s v) = none) := by show _ = _; rw [HCN.out, if_neg (by rw [ha]; simp)]
            have HK3 := Lib.hid (HS.out.keep.trans hk3 (by simp))
            clear ha hk3 e1 e2 e3 z0 z1 z2 z3
            go_wp2_with fail
            exact ⟨rfl, .inr ⟨HT.out, rfl⟩, HK3.out⟩
end Go.Proofs.YtbfebljahjmjfaaGreatDoor
/- filter: through and sound; walked. -/
namespace Go.Proofs.YtbfebljahjmjfaaGreatDoor
open Go.RowKit Go.Shelf
set_option linter.unusedVariables false
set_option linter.unusedSimpArgs false
set_option maxRecDepth 100000

/-- How sound ends. -/
def SouQ (no : Int) (t : FV) (w : World) (e : Ending) (w' : World) : Prop :=
  ((∃ h, rightF t = true ∧ e = .returned (FH.val h) ∧ ∀ (E : List Nat) X, (∀ x ∈ E, x < w.heap.size) → Keeps E w' X → FilAt X (lowF t) h) ∨ rightF t = false ∧ e = gaveUp8 no) ∧ Keeps [] w w'
set_option maxHeartbeats 4000000 in
theorem thrtop_is (g2 : Nat) (no : Int) (t : FV) (h : FH) (w : World) (ht : FilAt w t h) (hno : w.cell? ⟨g2, 0, none⟩ = some (.int .i64 no)) :
    Calls Tryz.prog 76 #[h.val, .int .i64 no, .func (.func 77) #[] #[.pointer (some ⟨g2, 0, none⟩)]] w (SouQ no t w) := by
  have hmf : ∀ (fn : Fn) (first cap : Array Value) (w : World), (Instr.makeFunc fn first cap).run Tryz.prog w = .ok (.func fn first cap) w := fun _ _ _ _ => rfl
  have HT := Lib.hid ht
  have HNO := Lib.hid hno
  have HGA := Lib.hid (gate8_is no)
  obtain ⟨k, B, lb, cb, s, v⟩ := h
  unfold FH.val tv at *
  dsimp only at *
  clear ht hno
  go_enter Tryz.func76, Tryz.ntmps76
  go_wp2_with fail
  have k1 : Keeps [] w (w.alloc (.cells #[.int .i64 k, .slice B lb cb, .string ⟨s.toArray⟩, .string ⟨v.toArray⟩] 26)) := (Keeps.refl [] w).alloc _
  have b1 := heap_new8 w (.cells #[.int .i64 k, .slice B lb cb, .string ⟨s.toArray⟩, .string ⟨v.toArray⟩] 26)
  have k2 : Keeps [] (w.alloc (.cells #[.int .i64 k, .slice B lb cb, .string ⟨s.toArray⟩, .string ⟨v.toArray⟩] 26)) ((w.alloc (.cells #[.int .i64 k, .slice B lb cb, .string ⟨s.toArray⟩, .string ⟨v.toArray⟩] 26)).alloc (.cells #[.func (.func 77) #[] #[.pointer (some ⟨g2, 0, none⟩)]] 112)) := (Keeps.refl [] _).alloc _
  have b2 := heap_new8 (w.alloc (.cells #[.int .i64 k, .slice B lb cb, .string ⟨s.toArray⟩, .string ⟨v.toArray⟩] 26)) (.cells #[.func (.func 77) #[] #[.pointer (some ⟨g2, 0, none⟩)]] 112)
  have k3 : Keeps [] ((w.alloc (.cells #[.int .i64 k, .slice B lb cb, .string ⟨s.toArray⟩, .string ⟨v.toArray⟩] 26)).alloc (.cells #[.func (.func 77) #[] #[.pointer (some ⟨g2, 0, none⟩)]] 112)) (((w.alloc (.cells #[.int .i64 k, .slice B lb cb, .string ⟨s.toArray⟩, .string ⟨v.toArray⟩] 26)).alloc (.cells #[.func (.func 77) #[] #[.pointer (some ⟨g2, 0, none⟩)]] 112)).alloc (.cells #[.int .i64 0, .slice none 0 0, .string ⟨#[]⟩, .string ⟨#[]⟩] 26)) := (Keeps.refl [] _).alloc _
  have b3 := heap_new8 ((w.alloc (.cells #[.int .i64 k, .slice B lb cb, .string ⟨s.toArray⟩, .string ⟨v.toArray⟩] 26)).alloc (.cells #[.func (.func 77) #[] #[.pointer (some ⟨g2, 0, none⟩)]] 112)) (.cells #[.int .i64 0, .slice none 0 0, .string ⟨#[]⟩, .string ⟨#[]⟩] 26)
  have HBF := Lib.hid (blk_keep (blk_keep b1 k2 (by simp)) k3 (by simp))
  have HBW := Lib.hid (blk_keep b2 k3 (by simp))
  have HBR := Lib.hid b3
  have HKB := Lib.hid (k1.trans' (k2.trans' k3))
  have HZ : Hid ((((w.alloc (.cells #[.int .i64 k, .slice B lb cb, .string ⟨s.toArray⟩, .string ⟨v.toArray⟩] 26)).alloc (.cells #[.func (.func 77) #[] #[.pointer (some ⟨g2, 0, none⟩)]] 112)).alloc (.cells #[.int .i64 0, .slice none 0 0, .string ⟨#[]⟩, .string ⟨#[]⟩] 26)).heap.size = w.heap.size + 3) := by show _ = _; simp
  simp only [World.size_alloc] at HBW HBR
  clear k1 k2 k3 b1 b2 b3
  generalize ((w.alloc (.cells #[.int .i64 k, .slice B lb cb, .string ⟨s.toArray⟩, .string ⟨v.toArray⟩] 26)).alloc (.cells #[.func (.func 77) #[] #[.pointer (some ⟨g2, 0, none⟩)]] 112)).alloc (.cells #[.int .i64 0, .slice none 0 0, .string ⟨#[]⟩, .string ⟨#[]⟩] 26) = W1 at HBF HBW HBR HKB HZ ⊢
  refine (HGA.out W1).mono ?_
  rintro e w1 ⟨rfl, hp1, hk1⟩
  have HP1 := Lib.hid hp1
  have HK1 := Lib.hid hk1
  clear hp1 hk1 HGA
  have k4 : Keeps [] w1 (w1.alloc (.cells #[.func (.func 134) #[] #[.pointer (some ⟨W1.heap.size + 1, 0, none⟩), .pointer (some ⟨W1.heap.size, 0, none⟩)]] 114)) := (Keeps.refl [] w1).alloc _
  have b4 := heap_new8 w1 (.cells #[.func (.func 134) #[] #[.pointer (some ⟨W1.heap.size + 1, 0, none⟩), .pointer (some ⟨W1.heap.size, 0, none⟩)]] 114)
  have k5 : Keeps [] (w1.alloc (.cells #[.func (.func 134) #[] #[.pointer (some ⟨W1.heap.size + 1, 0, none⟩), .pointer (some ⟨W1.heap.size, 0, none⟩)]] 114)) ((w1.alloc (.cells #[.func (.func 134) #[] #[.pointer (some ⟨W1.heap.size + 1, 0, none⟩), .pointer (some ⟨W1.heap.size, 0, none⟩)]] 114)).alloc (.cells #[.func (.func 132) #[] #[.pointer (some ⟨w1.heap.size, 0, none⟩), .pointer (some ⟨w1.heap.size + 1, 0, none⟩), .pointer (some ⟨w.heap.size + 1, 0, none⟩)]] 169)) := (Keeps.refl [] _).alloc _
  have b5 := heap_new8 (w1.alloc (.cells #[.func (.func 134) #[] #[.pointer (some ⟨W1.heap.size + 1, 0, none⟩), .pointer (some ⟨W1.heap.size, 0, none⟩)]] 114)) (.cells #[.func (.func 132) #[] #[.pointer (some ⟨w1.heap.size, 0, none⟩), .pointer (some ⟨w1.heap.size + 1, 0, none⟩), .pointer (some ⟨w.heap.size + 1, 0, none⟩)]] 169)
  have HBP := Lib.hid (blk_keep b4 k5 (by simp))
  have HBN := Lib.hid b5
  have HK5 := Lib.hid (k4.trans' k5)
  simp only [World.size_alloc] at HBN
  clear k4 k5 b4 b5
  have HBF5 := Lib.hid (blk_keep (blk_keep HBF.out HK1.out (by simp)) HK5.out (by simp))
  obtain ⟨⟨z0, z1, z2, z3⟩, _⟩ := four_facts8 HBF5.out
  have y0 := cell_of_blk HBN.out 0
  go_wp2_with fail
  generalize (w1.alloc (.cells #[.func (.func 134) #[] #[.pointer (some ⟨W1.heap.size + 1, 0, none⟩), .pointer (some ⟨W1.heap.size, 0, none⟩)]] 114)).alloc (.cells #[.func (.func 132) #[] #[.pointer (some ⟨w1.heap.size, 0, none⟩), .pointer (some ⟨w1.heap.size + 1, 0, none⟩), .pointer (some ⟨w.heap.size + 1, 0, none⟩)]] 169) = W5 at HBP HBN HK5 HBF5 z0 z1 z2 z3 y0 ⊢
  have hzw := HZ.out
  have hz1 := HK1.out.size
  have HKA := Lib.hid (HKB.out.trans' (HK1.out.trans' HK5.out))
  have HREC := Lib.hid (thrF_is w1.heap.size (w1.heap.size + 1) (w.heap.size + 1) (W1.heap.size + 1) W1.heap.size g2 no w (by omega) (by have := lt_of_cell HNO.out; dsimp only at this; omega) t 1 0 ⟨k, B, lb, cb, s, v⟩ W5 (by decide) (by decide) HT.out HKA.out ⟨cell_of_blk HBP.out 0, cell_of_blk HBN.out 0, cell_of_blk (blk_keep (blk_keep HBW.out HK1.out (by simp)) HK5.out (by simp)) 0, by have := lt_of_heap HP1.out.many; omega, by have := lt_of_heap HP1.out.many; omega, by omega⟩ ((HKA.out.cell (p := ⟨g2, 0, none⟩) (lt_of_cell HNO.out) (by simp)).trans HNO.out) (HP1.out.keep HK5.out (by simp) (by simp)))
  unfold FH.val tv at HREC
  dsimp only at HREC
  refine HREC.out.mono ?_
  rintro e w6 ⟨⟨n, h', hn, rfl, _, hr6⟩ | ⟨hn, rfl⟩, hk6⟩
  · have HQ : Hid (rightF t = true) := by show _ = _; unfold rightF; rw [hn]; rfl
    have HR6 := Lib.hid hr6
    have HK6 := Lib.hid hk6
    have HBR6 := Lib.hid (blk_keep (blk_keep (blk_keep HBR.out HK1.out (by simp)) HK5.out (by simp)) hk6 (by simp; omega))
    obtain ⟨⟨r0, r1, r2, r3⟩, s0, s1, s2, s3⟩ := four_facts8 HBR6.out
    obtain ⟨k', B', lb', cb', s', v'⟩ := h'
    unfold FH.val tv
    dsimp only
    obtain ⟨R, hR⟩ : ∃ R, w.heap.size + 1 + 1 = R := ⟨_, rfl⟩
    have HRR := Lib.hid hR
    rw [hR] at HBR6 r0 r1 r2 r3 s0 s1 s2 s3 ⊢
    clear hn hr6 hk6 hR z0 z1 z2 z3 y0
    go_wp2_with fail
    have HR6' := heap_setCell_same _ R 0 _ _ (.int .i64 k') HBR6.out
    have HR7 := heap_setCell_same _ R 1 _ _ (.slice B' lb' cb') HR6'
    have HR8 := heap_setCell_same _ R 2 _ _ (.string ⟨s'.toArray⟩) HR7
    have HR9 := heap_setCell_same _ R 3 _ _ (.string ⟨v'.toArray⟩) HR8
    refine bodyPost_ret (results_cell_row rfl _ _ R _ #[.int .i64 k', .slice B' lb' cb', .string ⟨s'.toArray⟩, .string ⟨v'.toArray⟩] (0, 0) _ rfl HR9 Tryz.underlying26 rfl (by kernel_rfl)) rfl ?_
    have k9 : Keeps [R] w6 ((((w6.setCell ⟨R, 0, none⟩ (.int .i64 k')).setCell ⟨R, 1, none⟩ (.slice B' lb' cb')).setCell ⟨R, 2, none⟩ (.string ⟨s'.toArray⟩)).setCell ⟨R, 3, none⟩ (.string ⟨v'.toArray⟩)) := ((((Keeps.refl [R] w6).setCell (.inl (by simp)) _).setCell (.inl (by simp)) _).setCell (.inl (by simp)) _).setCell (.inl (by simp)) _
    have hRe := HRR.out
    have hz5 := HK5.out.size
    refine ⟨.inl ⟨⟨k', B', lb', cb', s', v'⟩, HQ.out, rfl, fun E X hE hk => HR6.out (R :: E) X (fun x hx => ?_) ((k9.mono (cs := R :: E) (by simp)).trans hk (fun x hx => .inl (List.mem_cons_of_mem _ hx)))⟩, (HKA.out.trans HK6.out (fun x hx => .inr (by rw [List.mem_singleton.1 hx]; omega))).trans k9 (fun x hx => .inr (by rw [List.mem_singleton.1 hx]; omega))⟩
    rcases List.mem_cons.1 hx with hx | hx
    · omega
    · have := hE x hx
      omega
  · have HQ : Hid (rightF t = false) := by show _ = _; unfold rightF; rw [hn]; rfl
    have HK6 := Lib.hid (HKA.out.trans hk6 (fun x hx => .inr (by rw [List.mem_singleton.1 hx]; omega)))
    clear hn hk6 z0 z1 z2 z3 y0
    go_wp2_with fail
    exact ⟨rfl, .inr ⟨HQ.out, rfl⟩, HK6.out⟩
set_option maxHeartbeats 4000000 in
theorem sound_is (no : Int) (t : FV) (h : FH) (w : World) (ht : FilAt w t h) :
    Calls Tryz.prog 30 #[h.val, .int .i64 no] w (SouQ no t w) := by
  have hmf : ∀ (fn : Fn) (first cap : Array Value) (w : World), (Instr.makeFunc fn first cap).run Tryz.prog w = .ok (.func fn first cap) w := fun _ _ _ _ => rfl
  have HT := Lib.hid ht
  obtain ⟨k, B, lb, cb, s, v⟩ := h
  unfold FH.val tv at *
  dsimp only at *
  have k1 : Keeps [] w (w.alloc (.cells #[.int .i64 k, .slice B lb cb, .string ⟨s.toArray⟩, .string ⟨v.toArray⟩] 26)) := (Keeps.refl [] w).alloc _
  have b1 := heap_new8 w (.cells #[.int .i64 k, .slice B lb cb, .string ⟨s.toArray⟩, .string ⟨v.toArray⟩] 26)
  have k2 : Keeps [] (w.alloc (.cells #[.int .i64 k, .slice B lb cb, .string ⟨s.toArray⟩, .string ⟨v.toArray⟩] 26)) ((w.alloc (.cells #[.int .i64 k, .slice B lb cb, .string ⟨s.toArray⟩, .string ⟨v.toArray⟩] 26)).alloc (.cells #[.int .i64 no] 27)) := (Keeps.refl [] _).alloc _
  have b2 := heap_new8 (w.alloc (.cells #[.int .i64 k, .slice B lb cb, .string ⟨s.toArray⟩, .string ⟨v.toArray⟩] 26)) (.cells #[.int .i64 no] 27)
  have k3 : Keeps [] ((w.alloc (.cells #[.int .i64 k, .slice B lb cb, .string ⟨s.toArray⟩, .string ⟨v.toArray⟩] 26)).alloc (.cells #[.int .i64 no] 27)) (((w.alloc (.cells #[.int .i64 k, .slice B lb cb, .string ⟨s.toArray⟩, .string ⟨v.toArray⟩] 26)).alloc (.cells #[.int .i64 no] 27)).alloc (.cells #[.int .i64 0, .slice none 0 0, .string ⟨#[]⟩, .string ⟨#[]⟩] 26)) := (Keeps.refl [] _).alloc _
  have b3 := heap_new8 ((w.alloc (.cells #[.int .i64 k, .slice B lb cb, .string ⟨s.toArray⟩, .string ⟨v.toArray⟩] 26)).alloc (.cells #[.int .i64 no] 27)) (.cells #[.int .i64 0, .slice none 0 0, .string ⟨#[]⟩, .string ⟨#[]⟩] 26)
  have HBF := Lib.hid (blk_keep (blk_keep b1 k2 (by simp)) k3 (by simp))
  have HBW := Lib.hid (blk_keep b2 k3 (by simp))
  have HBR := Lib.hid b3
  have HKB := Lib.hid (k1.trans' (k2.trans' k3))
  have HZ : Hid ((((w.alloc (.cells #[.int .i64 k, .slice B lb cb, .string ⟨s.toArray⟩, .string ⟨v.toArray⟩] 26)).alloc (.cells #[.int .i64 no] 27)).alloc (.cells #[.int .i64 0, .slice none 0 0, .string ⟨#[]⟩, .string ⟨#[]⟩] 26)).heap.size = w.heap.size + 3) := by show _ = _; simp
  simp only [World.size_alloc] at HBW HBR
  clear k1 k2 k3 b1 b2 b3 ht
  obtain ⟨⟨z0, z1, z2, z3⟩, _⟩ := four_facts8 HBF.out
  have y0 := cell_of_blk HBW.out 0
  go_enter Tryz.func30, Tryz.ntmps30
  go_wp2_with fail
  generalize ((w.alloc (.cells #[.int .i64 k, .slice B lb cb, .string ⟨s.toArray⟩, .string ⟨v.toArray⟩] 26)).alloc (.cells #[.int .i64 no] 27)).alloc (.cells #[.int .i64 0, .slice none 0 0, .string ⟨#[]⟩, .string ⟨#[]⟩] 26) = W1 at HBF HBW HBR HKB HZ z0 z1 z2 z3 y0 ⊢
  have hzw := HZ.out
  have HREC := Lib.hid (thrtop_is (w.heap.size + 1) no t ⟨k, B, lb, cb, s, v⟩ W1 (FilAt.grow HKB.out t _ HT.out) y0)
  unfold FH.val tv at HREC
  dsimp only at HREC
  refine HREC.out.mono ?_
  rintro e w6 ⟨⟨h', hn, rfl, hr6⟩ | ⟨hn, rfl⟩, hk6⟩
  · have HQ := Lib.hid hn
    have HR6 := Lib.hid hr6
    have HK6 := Lib.hid hk6
    have HBR6 := Lib.hid (blk_keep HBR.out hk6 (by simp))
    obtain ⟨⟨r0, r1, r2, r3⟩, s0, s1, s2, s3⟩ := four_facts8 HBR6.out
    obtain ⟨k', B', lb', cb', s', v'⟩ := h'
    unfold FH.val tv
    dsimp only
    obtain ⟨R, hR⟩ : ∃ R, w.heap.size + 1 + 1 = R := ⟨_, rfl⟩
    have HRR := Lib.hid hR
    rw [hR] at HBR6 r0 r1 r2 r3 s0 s1 s2 s3 ⊢
    clear hn hr6 hk6 hR z0 z1 z2 z3 y0
    go_wp2_with fail
    have HR6' := heap_setCell_same _ R 0 _ _ (.int .i64 k') HBR6.out
    have HR7 := heap_setCell_same _ R 1 _ _ (.slice B' lb' cb') HR6'
    have HR8 := heap_setCell_same _ R 2 _ _ (.string ⟨s'.toArray⟩) HR7
    have HR9 := heap_setCell_same _ R 3 _ _ (.string ⟨v'.toArray⟩) HR8
    refine bodyPost_ret (results_cell_row rfl _ _ R _ #[.int .i64 k', .slice B' lb' cb', .string ⟨s'.toArray⟩, .string ⟨v'.toArray⟩] (0, 0) _ rfl HR9 Tryz.underlying26 rfl (by kernel_rfl)) rfl ?_
    have k9 : Keeps [R] w6 ((((w6.setCell ⟨R, 0, none⟩ (.int .i64 k')).setCell ⟨R, 1, none⟩ (.slice B' lb' cb')).setCell ⟨R, 2, none⟩ (.string ⟨s'.toArray⟩)).setCell ⟨R, 3, none⟩ (.string ⟨v'.toArray⟩)) := ((((Keeps.refl [R] w6).setCell (.inl (by simp)) _).setCell (.inl (by simp)) _).setCell (.inl (by simp)) _).setCell (.inl (by simp)) _
    have hRe := HRR.out
    refine ⟨.inl ⟨⟨k', B', lb', cb', s', v'⟩, HQ.out, rfl, fun E X hE hk => HR6.out (R :: E) X (fun x hx => ?_) ((k9.mono (cs := R :: E) (by simp)).trans hk (fun x hx => .inl (List.mem_cons_of_mem _ hx)))⟩, (HKB.out.trans' HK6.out).trans k9 (fun x hx => .inr (by rw [List.mem_singleton.1 hx]; omega))⟩
    rcases List.mem_cons.1 hx with hx | hx
    · omega
    · have := hE x hx
      omega
  · have HQ := Lib.hid hn
    have HK6 := Lib.hid (HKB.out.trans' hk6)
    clear hn hk6 z0 z1 z2 z3 y0
    go_wp2_with fail
    exact ⟨rfl, .inr ⟨HQ.out, rfl⟩, HK6.out⟩
end Go.Proofs.YtbfebljahjmjfaaGreatDoor
