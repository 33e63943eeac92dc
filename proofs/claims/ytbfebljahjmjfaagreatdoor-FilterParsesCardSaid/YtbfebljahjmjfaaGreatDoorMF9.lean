/- Texts of one proof, laid together: F64 F65 F74. -/
import Derived.Test.YtbfebljahjmjfaaGreatDoorMF8
import Derived.BigQuiet
import Derived.Test.YtbfebljahjmjfaaGreatDoorMF7
/- filter: the program's Same of two filters; walked. -/
namespace Go.Proofs.YtbfebljahjmjfaaGreatDoor
open Go.RowKit Go.Shelf
set_option linter.unusedVariables false
set_option linter.unusedSimpArgs false
set_option maxRecDepth 100000

theorem src_two8 (w : World) (a b : Value) (t : TypeId) : Src (w.alloc (.cells #[a, b] t)) (some ⟨w.heap.size, 0, none⟩) 1 [a, b] := by
  refine ⟨(fun h => by cases h), fun ad hA j u hu => ?_⟩
  cases hA
  rw [add_at, Nat.zero_add, World.cell?_alloc_new]
  simpa using hu
set_option maxHeartbeats 16000000 in
theorem fsame_is (ta tb : FV) (ha hb : FH) (w : World) (hA : FilAt w ta ha) (hB : FilAt w tb hb) (hn : szF ta ≤ 50000) :
    Calls Tryz.prog 69 #[ha.val, hb.val] w fun e w' => e = .returned (.bool (sameF ta tb)) ∧ Keeps [] w w' := by
  obtain ⟨iu, hiu, hzu0, hzu1, hzu2⟩ := info_parts fpair_info
  obtain ⟨res, hres⟩ : ∃ res, sameF ta tb = res := ⟨_, rfl⟩
  have HRES := Lib.hid hres
  rw [hres]
  obtain ⟨k, B, lb, cb, s, v⟩ := ha
  obtain ⟨k', B', lb', cb', s', v'⟩ := hb
  obtain ⟨Wb, hWb⟩ : ∃ Wb, (w.alloc (.cells #[.int .i64 k, .slice B lb cb, .string ⟨s.toArray⟩, .string ⟨v.toArray⟩] 26)).alloc (.cells #[.int .i64 k', .slice B' lb' cb', .string ⟨s'.toArray⟩, .string ⟨v'.toArray⟩] 26) = Wb := ⟨_, rfl⟩
  have kb : Keeps [] w Wb := by rw [← hWb]; exact ((Keeps.refl [] w).alloc _).alloc _
  have zb : Wb.heap.size = w.heap.size + 2 := by rw [← hWb]; simp
  obtain ⟨hb0, hb1⟩ := two_boxes8 w (.cells #[.int .i64 k, .slice B lb cb, .string ⟨s.toArray⟩, .string ⟨v.toArray⟩] 26) (.cells #[.int .i64 k', .slice B' lb' cb', .string ⟨s'.toArray⟩, .string ⟨v'.toArray⟩] 26)
  rw [hWb] at hb0 hb1
  have hl1 : FilsAt (Wb.alloc (.cells #[.int .i64 k, .slice B lb cb, .string ⟨s.toArray⟩, .string ⟨v.toArray⟩] 26)) (some ⟨Wb.heap.size, 0, none⟩) 0 [ta] := fils_lit Wb [ta] [⟨k, B, lb, cb, s, v⟩] 1 _ rfl rfl rfl (by decide) (fun i t h ht hh => by
    cases i with
    | zero => cases ht; cases hh; exact FilAt.grow kb _ _ hA
    | succ i => simp at ht)
  obtain ⟨Wc, hWc⟩ : ∃ Wc, Wb.alloc (.cells #[.int .i64 k, .slice B lb cb, .string ⟨s.toArray⟩, .string ⟨v.toArray⟩] 26) = Wc := ⟨_, rfl⟩
  have kc : Keeps [] Wb Wc := by rw [← hWc]; exact (Keeps.refl [] Wb).alloc _
  have zc : Wc.heap.size = w.heap.size + 3 := by rw [← hWc]; simp [zb]
  rw [hWc] at hl1
  have hl2 : FilsAt (Wc.alloc (.cells #[.int .i64 k', .slice B' lb' cb', .string ⟨s'.toArray⟩, .string ⟨v'.toArray⟩] 26)) (some ⟨Wc.heap.size, 0, none⟩) 0 [tb] := fils_lit Wc [tb] [⟨k', B', lb', cb', s', v'⟩] 1 _ rfl rfl rfl (by decide) (fun i t h ht hh => by
    cases i with
    | zero => cases ht; cases hh; exact FilAt.grow (kb.trans' kc) _ _ hB
    | succ i => simp at ht)
  obtain ⟨V, hV⟩ : ∃ V, Wc.alloc (.cells #[.int .i64 k', .slice B' lb' cb', .string ⟨s'.toArray⟩, .string ⟨v'.toArray⟩] 26) = V := ⟨_, rfl⟩
  have kd : Keeps [] Wc V := by rw [← hV]; exact (Keeps.refl [] Wc).alloc _
  have zd : V.heap.size = w.heap.size + 4 := by rw [← hV]; simp [zc]
  rw [hV] at hl2
  have hl1' := FilsAt.grow kd _ 0 _ hl1
  rw [zb] at hl1'
  rw [zc] at hl2
  have hrow : (V.alloc (.cells #[.slice (some ⟨w.heap.size + 2, 0, none⟩) 1 1, .slice (some ⟨w.heap.size + 3, 0, none⟩) 1 1] 156)).ownsRow V.heap.size 156 2 (.slice (some ⟨V.heap.size, 0, none⟩) 1 1) 1 [.slice (some ⟨w.heap.size + 2, 0, none⟩) 1 1, .slice (some ⟨w.heap.size + 3, 0, none⟩) 1 1] := by
    have h := World.ownsRow_lit (base := V.heap.size) (e := 156) (size := 2) V #[.slice (some ⟨w.heap.size + 2, 0, none⟩) 1 1, .slice (some ⟨w.heap.size + 3, 0, none⟩) 1 1] 1 (Nat.le_refl _) (by unfold maxLen; omega) (by simp)
    simpa using h
  have H0 : Hid (StkR res V (.slice (some ⟨V.heap.size, 0, none⟩) 1 1) (V.alloc (.cells #[.slice (some ⟨w.heap.size + 2, 0, none⟩) 1 1, .slice (some ⟨w.heap.size + 3, 0, none⟩) 1 1] 156)) (nodesS8 [⟨1, some ⟨w.heap.size + 2, 0, none⟩, 1, some ⟨w.heap.size + 3, 0, none⟩, 1, [ta], [tb]⟩])) := by
    refine ⟨[⟨1, some ⟨w.heap.size + 2, 0, none⟩, 1, some ⟨w.heap.size + 3, 0, none⟩, 1, [ta], [tb]⟩], some ⟨V.heap.size, 0, none⟩, 1, rfl, rfl, ?_, hrow, ?_, ?_, (Keeps.refl [] V).alloc _⟩
    · simp [nodesS8, szFL]; omega
    · intro x hx
      rw [List.mem_singleton.1 hx]
      exact ⟨rfl, rfl, by show 1 ≤ _; omega, hl1', hl2⟩
    · simp [allS8, sameFL, hres]
  have HKV : Hid (Keeps [] w V) := kb.trans' (kc.trans' kd)
  obtain ⟨⟨z0, z1, z2, z3⟩, _⟩ := four_facts8 hb0
  obtain ⟨⟨y0, y1, y2, y3⟩, _⟩ := four_facts8 hb1
  have c0 := (kc.cell (lt_of_cell y0) (by simp)).trans y0
  have c1 := (kc.cell (lt_of_cell y1) (by simp)).trans y1
  have c2 := (kc.cell (lt_of_cell y2) (by simp)).trans y2
  have c3 := (kc.cell (lt_of_cell y3) (by simp)).trans y3
  clear hA hB hn hl1 hl2 hl1' hrow hb0 hb1 kb kc kd hres y0 y1 y2 y3
  unfold FH.val tv
  dsimp only
  go_enter Tryz.func69, Tryz.ntmps69
  go_wp2_with fail
  try simp only [zb, zc, zd]
  try simp only [zd] at H0
  generalize hR0 : V.alloc (.cells #[.slice (some ⟨w.heap.size + 2, 0, none⟩) 1 1, .slice (some ⟨w.heap.size + 3, 0, none⟩) 1 1] 156) = R0 at H0 ⊢
  clear hR0 c0 c1 c2 c3 z0 z1 z2 z3 hWb hWc hV zb zc
  go_loopw [5] (fun x wr => ∃ m, Hid (StkR res V x wr m)) (fun x wr => leastOf (StkR res V x wr))
  case atStart => exact ⟨_, H0.out⟩
  case round =>
    obtain ⟨m0, hm0⟩ := hrel
    have hst := least_is ⟨m0, hm0.out⟩
    generalize hmm : leastOf (StkR res V u5 wr) = m at *
    clear hm0
    obtain ⟨S, g, d, rfl, hns, hm1, hown, hok, hall, hKW1⟩ := hst
    rcases List.eq_nil_or_concat S with rfl | ⟨S1, x, rfl⟩
    · have HRT : Hid (res = true) := by rw [← hall]; rfl
      have HKW := Lib.hid (HKV.out.trans' hKW1)
      clear hall hok hown hns hKW1 hmm hm1
      go_wp2_with fail
      go_ret
      exact ⟨by rw [HRT.out]; rfl, HKW.out⟩
    · rw [List.concat_eq_append] at hown hok hall hns hmm
      rw [List.concat_eq_append]
      have hsl : (S1 ++ [x]).length = S1.length + 1 := by simp
      rw [hsl] at hown hmm
      rw [hsl]
      rw [stackV8_snoc] at hown
      rw [nodesS8_snoc] at hns
      rw [allS8_snoc] at hall
      have hsv := stackV8_len S1
      have hnl := nodesS8_len S1
      have hso := hok x (by simp)
      obtain ⟨K, rfl, hk1, hk2, hnd, hdm, p0, p1, hown1⟩ := own_pop hown hsv
      have hkz : V.heap.size ≤ wr.heap.size := hKW1.size
      have HOK : Hid (∀ x ∈ S1, x.ok V) := fun x hx => hok x (by simp [hx])
      have HSO := Lib.hid hso
      have HALL := Lib.hid hall
      have HNS := Lib.hid hns
      have HOW := Lib.hid hown1
      have HKW1 := Lib.hid hKW1
      have HMM := Lib.hid hmm
      clear hok hso hall hown1 hown hKW1 hsl hmm hsv hns
      obtain ⟨xn, xA, xc, xB, xd, xx, xy⟩ := x
      dsimp only at p0 p1
      rw [Nat.zero_add] at p0 p1
      have hn1 : S1.length ≤ 100000 := by have := HNS.out; omega
      generalize hnn : S1.length = n1 at *
      have HNN := Lib.hid hnn
      clear hnn hnl
      have hsl8 := slice_to8 K 0 (n1 + 1) d n1 (by omega) hnd
      obtain ⟨n2, hn2⟩ : ∃ n2, n1 + 1 = n2 := ⟨_, rfl⟩
      rw [hn2] at hsl8 hnd ⊢
      have hN2 : (0 : Int) < (n2 : Int) := by omega
      have hsub : (n2 : Int) - 1 = (n1 : Int) := by omega
      have hn12 : (n1 : Int) < (n2 : Int) := by omega
      have HN2 := Lib.hid hn2
      have HR5 := Lib.hid (heap_new8 wr (.cells #[.slice xA xn xc, .slice xB xn xd] 156))
      have HK5 : Hid (Keeps [] wr (wr.alloc (.cells #[.slice xA xn xc, .slice xB xn xd] 156))) := (Keeps.refl [] wr).alloc _
      obtain ⟨d0, d1⟩ := (blk2 HR5.out).1
      clear hn2
      go_wp2_with fail
      have HIN : Hid (StpR res V wr.heap.size m ⟨xn, xA, xc, xB, xd, xx, xy⟩ 0 (.slice (some ⟨K, 0, none⟩) n1 d) (wr.alloc (.cells #[.slice xA xn xc, .slice xB xn xd] 156))) := by
        refine ⟨S1, n1, _, _, rfl, HNN.out, (by have := HNS.out; show nodesS8 S1 + szFL (xx.drop 0) + 1 ≤ m; rw [List.drop_zero]; omega), own_keep HOW.out HK5.out (fun b hb hm => by cases hm), HOK.out, (by have h9 := HALL.out; simpa using h9), HKW1.out.trans' HK5.out, HR5.out, fun b hb => ?_⟩
        simp [Value.ownBlock] at hb
        omega
      have hm9 : m ≤ 100000 := hm1
      clear p0 p1 hsub hsl8 hN2 hn12
      generalize wr.alloc (.cells #[.slice xA xn xc, .slice xB xn xd] 156) = W5 at HIN HK5 HR5 d0 d1 ⊢
      generalize wr.heap.size = g5 at *
      obtain ⟨wo, hwo⟩ : ∃ wo : World, wo = wr := ⟨_, rfl⟩
      subst hwo
      go_loopw [5, 33] (fun x i wr => ∃ j : Nat, i = .int .i64 (j : Int) ∧ j ≤ xn ∧ Hid (StpR res V g5 m ⟨xn, xA, xc, xB, xd, xx, xy⟩ j x wr)) (fun _ i _ => xn - (intOf i).toNat)
      case atStart => exact ⟨0, rfl, Nat.zero_le _, HIN.out⟩
      case round =>
        obtain ⟨j, rfl, hj, HINR⟩ := hrel
        obtain ⟨S, n, gg, d', rfl, hSn, hns, hown, hok, hall, hKW, hr5, hne⟩ := HINR.out
        clear HINR HIN
        dsimp only at hns hall hr5
        by_cases hlt : j < xn
        · obtain ⟨hxl, hyl, hxn, hxi, hyi⟩ := HSO.out
          dsimp only at hxl hyl hxn hxi hyi
          obtain ⟨t1, hx⟩ : ∃ t, xx[j]? = some t := ⟨_, List.getElem?_eq_getElem (by omega)⟩
          obtain ⟨t2, hy⟩ : ∃ t, xy[j]? = some t := ⟨_, List.getElem?_eq_getElem (by omega)⟩
          obtain ⟨b1, o1, hh1, rfl, hc1, hat1⟩ := (FilsAt.grow hKW _ 0 _ hxi).at_ j _ hx
          obtain ⟨b2, o2, hh2, rfl, hc2, hat2⟩ := (FilsAt.grow hKW _ 0 _ hyi).at_ j _ hy
          rw [Nat.zero_add] at hc1 hc2
          obtain ⟨g0, g1, g2, g3⟩ := four_at hc1
          obtain ⟨i0, i1, i2, i3⟩ := four_at hc2
          have HHA := Lib.hid hat1.head
          have HHB := Lib.hid hat2.head
          have HNA := Lib.hid ((hxi.at_ j _ hx))
          have HLK := Lib.hid (fun X => alike8_is hh1 hh2 X (by rw [HHA.out.2.1]; exact HHA.out.2.2.2.2.2.2.1) (by rw [HHB.out.2.1]; exact HHB.out.2.2.2.2.2.2.1))
          have HSF : Hid (sameF t1 t2 = (likeH hh1.k hh2.k hh1.s hh2.s hh1.v hh2.v hh1.lb hh2.lb && sameFL t1.l t2.l)) := by
            show _ = _
            rw [sameF_l, HHA.out.1, HHA.out.2.1, HHA.out.2.2.1, HHB.out.1, HHB.out.2.1, HHB.out.2.2.1, HHA.out.2.2.2.1, HHB.out.2.2.2.1]
          have HIX : Hid (FilsAt V hh1.B 0 t1.l ∧ FilsAt V hh2.B 0 t2.l) := by
            obtain ⟨b1', o1', h1', e1, c1', a1'⟩ := hxi.at_ j _ hx
            obtain ⟨b2', o2', h2', e2, c2', a2'⟩ := hyi.at_ j _ hy
            cases e1
            cases e2
            have q1 := c1' 1 (.slice h1'.B h1'.lb h1'.cb) rfl
            have q2 := c2' 1 (.slice h2'.B h2'.lb h2'.cb) rfl
            rw [Nat.zero_add] at q1 q2
            have r1 := (hKW.cell (lt_of_cell q1) (by simp)).trans q1
            have r2 := (hKW.cell (lt_of_cell q2) (by simp)).trans q2
            rw [g1] at r1
            rw [i1] at r2
            injection r1 with r1
            injection r1 with r1 _ _
            injection r2 with r2
            injection r2 with r2 _ _
            rw [r1, r2]
            exact ⟨a1'.head.2.2.2.2.2.2.2, a2'.head.2.2.2.2.2.2.2⟩
          have HD1 := Lib.hid (sameFL_drop hx hy)
          have HD2 := Lib.hid (szFL_drop hx)
          have HST := Lib.hid (And.intro hSn (And.intro hns (And.intro hown (And.intro hok (And.intro hall (And.intro hKW (And.intro hr5 hne)))))))
          obtain ⟨d0, d1⟩ := (blk2 hr5).1
          obtain ⟨k1, B1, l1, c1, s1, v1⟩ := hh1
          obtain ⟨k2, B2, l2, c2, s2, v2⟩ := hh2
          dsimp only at g0 g1 g2 g3 i0 i1 i2 i3 HLK HSF HHA HHB HIX
          have HLL : Hid (likeH k1 k2 s1 s2 v1 v2 l1 l2 = true → l1 = l2) := fun h => by unfold likeH at h; simp only [Bool.and_eq_true, beq_iff_eq] at h; exact h.2.2.2
          have hxn9 : xn ≤ 9223372036854775807 := hxn
          generalize likeH k1 k2 s1 s2 v1 v2 l1 l2 = lk at HLK HSF HLL
          have hji : (j : Int) < (xn : Int) := by omega
          have hj0 : (0 : Int) ≤ (j : Int) := by omega
          have KA : Hid (Keeps [] wr (wr.alloc (.cells #[.int .i64 k1, .slice B1 l1 c1, .string ⟨s1.toArray⟩, .string ⟨v1.toArray⟩] 26))) := (Keeps.refl [] wr).alloc _
          have KB : Hid (Keeps [] (wr.alloc (.cells #[.int .i64 k1, .slice B1 l1 c1, .string ⟨s1.toArray⟩, .string ⟨v1.toArray⟩] 26)) ((wr.alloc (.cells #[.int .i64 k1, .slice B1 l1 c1, .string ⟨s1.toArray⟩, .string ⟨v1.toArray⟩] 26)).alloc (.cells #[.int .i64 k2, .slice B2 l2 c2, .string ⟨s2.toArray⟩, .string ⟨v2.toArray⟩] 26))) := (Keeps.refl [] _).alloc _
          have da := (KA.out.cell (lt_of_cell d1) (by simp)).trans d1
          have ia0 := (KA.out.cell (lt_of_cell i0) (by simp)).trans i0
          have ia1 := (KA.out.cell (lt_of_cell i1) (by simp)).trans i1
          have ia2 := (KA.out.cell (lt_of_cell i2) (by simp)).trans i2
          have ia3 := (KA.out.cell (lt_of_cell i3) (by simp)).trans i3
          obtain ⟨hba, hbb⟩ := two_boxes8 wr (.cells #[.int .i64 k1, .slice B1 l1 c1, .string ⟨s1.toArray⟩, .string ⟨v1.toArray⟩] 26) (.cells #[.int .i64 k2, .slice B2 l2 c2, .string ⟨s2.toArray⟩, .string ⟨v2.toArray⟩] 26)
          have HBA := Lib.hid hba
          have HBB := Lib.hid hbb
          obtain ⟨⟨ea0, ea1, ea2, ea3⟩, _⟩ := four_facts8 hba
          obtain ⟨⟨eb0, eb1, eb2, eb3⟩, _⟩ := four_facts8 hbb
          clear hxl hyl hxn hxi hyi hx hy hc1 hc2 hat1 hat2 hSn hns hown hok hall hKW hr5 hne hba hbb
          unfold FH.val tv at HLK
          dsimp only at HLK
          cases lk with
          | false =>
            have HRF : Hid (res = false) := by
              have h9 := HST.out.2.2.2.2.1
              rw [HD1.out, HSF.out, Bool.false_and, Bool.false_and, Bool.and_false] at h9
              exact h9.symm
            go_wp2_with fail
            refine (HLK.out _).mono ?_
            rintro e w6 ⟨rfl, hk6⟩
            have HKW6 := Lib.hid (HKV.out.trans' (HST.out.2.2.2.2.2.1.trans' (KA.out.trans' (KB.out.trans' hk6))))
            clear hk6
            go_wp2_with fail
            go_ret
            exact ⟨by rw [HRF.out]; rfl, HKW6.out⟩
          | true =>
            obtain rfl : l1 = l2 := HLL.out (by first | rfl | trivial)
            clear HLL
            have HRF : Hid (sameF t1 t2 = sameFL t1.l t2.l) := by show _ = _; rw [HSF.out, Bool.true_and]
            go_wp2_with fail
            refine (HLK.out _).mono ?_
            rintro e w6 ⟨rfl, hk6⟩
            have HK6 := Lib.hid (KA.out.trans' (KB.out.trans' hk6))
            obtain ⟨⟨fa0, fa1, fa2, fa3⟩, _⟩ := four_facts8 (blk_keep HBA.out hk6 (by simp))
            obtain ⟨⟨fb0, fb1, fb2, fb3⟩, _⟩ := four_facts8 (blk_keep HBB.out hk6 (by simp))
            have HK7 : Hid (Keeps [] wr (w6.alloc (.cells #[.slice B1 l1 c1, .slice B2 l1 c2] 156))) := HK6.out.trans' ((Keeps.refl [] w6).alloc _)
            have HROW := Lib.hid (own_keep HST.out.2.2.1 HK7.out (fun b hb hm => by cases hm))
            have HSZ : Hid (V.heap.size ≤ (w6.alloc (.cells #[.slice B1 l1 c1, .slice B2 l1 c2] 156)).heap.size) := Nat.le_trans HST.out.2.2.2.2.2.1.size HK7.out.size
            have hn9 : n ≤ 100000 := by have h1 := HST.out.1; have h2 := HST.out.2.1; have h3 := nodesS8_len S; omega
            have HSVL : Hid ((stackV8 S).length = n * 2) := by show _ = _; rw [stackV8_len, HST.out.1]
            have hgl : g5 < wr.heap.size := lt_of_heap HST.out.2.2.2.2.2.2.1
            clear hk6 g0 g1 g2 g3 i0 i1 i2 i3 ia0 ia1 ia2 ia3 da d0 d1 ea0 ea1 ea2 ea3 eb0 eb1 eb2 eb3
            go_wp2_with (at_builtin; refine wpList_append_opt rfl (.tmp 47) (.tmp 53) 157 rfl V.heap.size 156 iu _ 2 48 Tryz.underlying157 hiu hzu0 hzu1 hzu2 rfl (by decide) (.slice gg n d') n (stackV8 S) rfl HROW.out (some ⟨w6.heap.size, 0, none⟩) 1 1 [.slice B1 l1 c1, .slice B2 l1 c2] rfl rfl (src_two8 w6 _ _ _) (by intro u hu; simp at hu; rcases hu with rfl | rfl <;> rfl) (by unfold maxLen; omega) (by omega) HSZ.out ?_; intro v8 w8 ho8 hg8 hs8; obtain ⟨A8, c8, hv8⟩ := own_slice ho8; subst hv8; have HO8 := Lib.hid ho8; have HG8 := Lib.hid hg8; have HS8 := Lib.hid hs8; clear ho8 hg8 hs8)
            have HNX : Hid (StpR res V g5 m ⟨xn, some ⟨b1, o1, none⟩, xc, some ⟨b2, o2, none⟩, xd, xx, xy⟩ (j + 1) (.slice A8 (n + 1) c8) w8) := by
              have hvl : ∀ x ∈ (Value.slice gg n d').ownBlock.toList, V.heap.size ≤ x := fun x hx => (HROW.out.lt x (by simpa using hx)).1
              have k8 : Keeps (Value.slice gg n d').ownBlock.toList (w6.alloc (.cells #[.slice B1 l1 c1, .slice B2 l1 c2] 156)) w8 := Keeps.of_grown HG8.out (fun x hx => .inl (by rw [hx]; simp))
              obtain ⟨hSn, hns, hown, hok, hall, hKW, hr5, hne⟩ := HST.out
              refine ⟨S ++ [⟨l1, B1, c1, B2, c2, t1.l, t2.l⟩], n + 1, A8, c8, rfl, by simp [hSn], ?_, by rw [stackV8_snoc]; exact HO8.out, fun x hx => ?_, ?_, (hKW.trans' HK7.out).trans k8 (fun x hx => .inr (hvl x hx)), blk_keep (blk_keep hr5 HK7.out (by simp)) k8 (fun hm => hne g5 (by simpa using hm) rfl), fun b hb => ?_⟩
              · have h1 := HD2.out
                have h2 := szF_l t1
                rw [nodesS8_snoc]
                dsimp only
                omega
              · rcases List.mem_append.1 hx with hx | hx
                · exact hok x hx
                · rw [List.mem_singleton.1 hx]
                  exact ⟨HHA.out.2.2.2.1, HHB.out.2.2.2.1, (by have h1 := HHA.out.2.2.2.2.1; have h2 := HHA.out.2.2.2.2.2.1; show l1 ≤ _; omega), HIX.out.1, HIX.out.2⟩
              · rw [allS8_snoc]
                dsimp only
                rw [← hall, HD1.out, HRF.out, Bool.and_assoc]
              · rcases HS8.out with h9 | h9
                · rw [h9] at hb
                  exact hne b hb
                · rw [h9] at hb
                  injection hb with hb
                  have := HK7.out.size
                  omega
            clear fa0 fa1 fa2 fa3 fb0 fb1 fb2 fb3
            go_wp2_with fail
            go_roundw
            case rel => exact ⟨j + 1, by go_num, by omega, HNX.out⟩
            case measure => simp [intOf]; omega
        · obtain rfl : xn = j := by omega
          have HNX : Hid (StkR res V (.slice gg n d') wr (nodesS8 S)) := by
            refine ⟨S, gg, d', by rw [hSn], rfl, by omega, by rw [hSn]; exact hown, hok, ?_, hKW⟩
            have hxl := HSO.out.1
            have hyl := HSO.out.2.1
            dsimp only at hxl hyl
            rw [List.drop_of_length_le (by omega), List.drop_of_length_le (by omega)] at hall
            simpa [sameFL] using hall
          have HLT : Hid (nodesS8 S < m) := by show _ < _; omega
          clear hSn hns hown hok hall hKW hr5 hne
          go_wp2_with fail
          go_roundw
          case rel => exact ⟨_, HNX.out⟩
          case measure => exact Nat.lt_of_le_of_lt (least_le HNX.out) (by rw [← HN2.out, HMM.out]; exact HLT.out)
end Go.Proofs.YtbfebljahjmjfaaGreatDoor
/- filter: the law FilterSame; walked. -/
namespace Go.Proofs.YtbfebljahjmjfaaGreatDoor
open Go.RowKit Go.Shelf
set_option linter.unusedVariables false
set_option linter.unusedSimpArgs false
set_option maxRecDepth 100000

theorem beq_swap {α : Type} [BEq α] [LawfulBEq α] (a b : α) : (a == b) = (b == a) := by
  rw [Bool.eq_iff_iff, beq_iff_eq, beq_iff_eq]
  exact ⟨Eq.symm, Eq.symm⟩
theorem likeH_comm (k k' : Int) (s s' v v' : Txt) (n n' : Nat) : likeH k k' s s' v v' n n' = likeH k' k s' s v' v n' n := by
  unfold likeH
  rw [beq_swap k k', beq_swap (smallL s), beq_swap v, beq_swap n]
theorem sameFL_comm : ∀ (l l' : List FV), (∀ t ∈ l, ∀ u, sameF t u = sameF u t) → sameFL l l' = sameFL l' l
  | [], [], _ => rfl
  | [], _ :: _, _ => by simp [sameFL]
  | _ :: _, [], _ => by simp [sameFL]
  | x :: r, y :: q, h => by
    simp only [sameFL]
    rw [h x (List.mem_cons_self ..) y, sameFL_comm r q (fun t ht => h t (List.mem_cons_of_mem _ ht))]
theorem sameF_comm : ∀ (t u : FV), sameF t u = sameF u t := by
  intro t
  induction t using FV.ind with
  | h k l s v ih =>
    intro u
    obtain ⟨k', l', s', v'⟩ := u
    rw [sameF, sameF, likeH_comm, sameFL_comm l l' ih]
theorem sameFL_refl : ∀ (l : List FV), (∀ t ∈ l, sameF t t = true) → sameFL l l = true
  | [], _ => by simp [sameFL]
  | x :: r, h => by
    simp only [sameFL]
    rw [h x (List.mem_cons_self ..), sameFL_refl r (fun t ht => h t (List.mem_cons_of_mem _ ht))]
    rfl
theorem sameF_refl : ∀ (t : FV), sameF t t = true := by
  intro t
  induction t using FV.ind with
  | h k l s v ih =>
    rw [sameF, sameFL_refl l ih]
    unfold likeH
    simp
end Go.Proofs.YtbfebljahjmjfaaGreatDoor
/- filter: the law FilterParses; walked (the document's one told). -/
namespace Go.Proofs.YtbfebljahjmjfaaGreatDoor
open Go.RowKit Go.Shelf
set_option linter.unusedVariables false
set_option linter.unusedSimpArgs false
set_option maxRecDepth 100000

theorem filAt_zero (X : World) : FilAt X (.mk 0 [] [] []) ⟨0, none, 0, 0, [], []⟩ := by
  unfold FilAt
  exact ⟨rfl, rfl, rfl, by decide, by decide, by simp, by simp, rfl, Nat.le_refl _, by decide, trivial⟩
/-- What the two Parses answer is alike. -/
def TwoQ (T : Txt) (b : Bool) (n : Int) (X : World) (ha hb : FH) : Prop :=
  ∃ ta tb, FilAt X ta ha ∧ FilAt X tb hb ∧ sameF ta tb = true ∧ (b = true ∧ n = 0 ∨ b = false ∧ n = 180 ∧ ha = ⟨0, none, 0, 0, [], []⟩ ∧ hb = ⟨0, none, 0, 0, [], []⟩)
set_option maxHeartbeats 8000000 in
theorem filterparses_of (T : Txt) (w : World) (hT : T.length ≤ 9223372036854775807) (hG : SgnAt w) (hs : SynAt w) (HONE : T.length ≤ 3000 → ∀ X, Calls Tryz.prog 32 #[tv T, .int .i64 0, .int .i64 1] X fun e w' => OnQ T 0 1 X e w') :
    Calls Tryz.prog 3 #[tv T] w fun e w' => e = .returned (.bool true) ∧ Keeps [] w w' := by
  have HKN := Lib.hid (fun X (hX : Keeps [] w X) => known8_is X (hG.keep hX) (hs.keep hX (by simp)))
  have HFP := Lib.hid (fun (h : T.length ≤ 3000) X (hX : Keeps [] w X) => fparse_is T X (by omega) (hG.keep hX) (hs.keep hX (by simp)))
  have HRP := Lib.hid (fun (h : T.length ≤ 3000) X => rparse8_of T X (by omega) (HONE h))
  have HRS := Lib.hid (fun ta tb ha hb X (hA : FilAt X ta ha) (hB : FilAt X tb hb) => rsame8_is ta tb ha hb X hA hB)
  obtain ⟨n, hn⟩ : ∃ n, T.length = n := ⟨_, rfl⟩
  have hsz : (⟨T.toArray⟩ : ByteArray).size = n := hn
  rw [hn] at hT HFP HRP
  clear hG hs HONE hn
  have HK0 := Lib.hid (Keeps.refl [] w)
  unfold tv at *
  go_enter Tryz.func3, Tryz.ntmps3
  by_cases h3 : n ≤ 3000
  rotate_left
  · have h3i : ¬ (n : Int) ≤ 3000 := by omega
    have h3j : (3000 : Int) < (n : Int) := by omega
    go_wp2_with fail
    refine (HKN.out _ HK0.out).mono ?_
    rintro e w9 ⟨rfl, hk9⟩
    have HK9 := Lib.hid hk9
    clear hk9
    go_wp2_with fail
    go_ret
    exact ⟨by first | rfl | simp, HK9.out⟩
  · have h3i : (n : Int) ≤ 3000 := by omega
    have h3j : ¬ (3000 : Int) < (n : Int) := by omega
    go_wp2_with fail
    refine (HFP.out h3 _ HK0.out).mono ?_
    intro e w1 hq1
    have hq1' : ∃ ha : FH, ∃ x : Int, e = .returned (.tuple #[FH.val ha, .int .i64 x]) ∧ ((∃ t, parseF T = some t ∧ x = 0 ∧ FilAt w1 t ha) ∨ parseF T = none ∧ x = 180 ∧ ha = ⟨0, none, 0, 0, [], []⟩) := by
      rcases hq1.1 with ⟨t, h, h1, h2, h4⟩ | ⟨h1, h2⟩
      · exact ⟨h, 0, h2, .inl ⟨t, h1, rfl, h4⟩⟩
      · exact ⟨_, 180, h2, .inr ⟨h1, rfl, rfl⟩⟩
    have hk1 := hq1.2
    clear hq1
    obtain ⟨ha, x, rfl, hcA⟩ := hq1'
    have HCA := Lib.hid hcA
    obtain ⟨k, B, lb, cb, s, v⟩ := ha
    have HKA : Hid (Keeps [] w1 (w1.alloc (.cells #[.int .i64 k, .slice B lb cb, .string ⟨s.toArray⟩, .string ⟨v.toArray⟩] 26))) := (Keeps.refl [] w1).alloc _
    have HXA := Lib.hid (heap_new8 w1 (.cells #[.int .i64 k, .slice B lb cb, .string ⟨s.toArray⟩, .string ⟨v.toArray⟩] 26))
    have HK1 := Lib.hid (hk1.trans' HKA.out)
    clear hcA hk1
    unfold FH.val tv at *
    dsimp only at *
    go_wp2_with fail
    refine (HRP.out h3 _).mono ?_
    intro e w2 hq2
    have hq2' : ∃ hb : FH, ∃ y : Bool, e = .returned (.tuple #[FH.val hb, .bool y]) ∧ TwoQ T y x w2 ⟨k, B, lb, cb, s, v⟩ hb := by
      have hkk := hq2.2.2
      rcases HCA.out with ⟨t, h1, rfl, h4⟩ | ⟨h1, rfl, h5⟩
      · rw [← parse_same] at h1
        obtain ⟨hb, h6, h7⟩ := hq2.1 t h1
        exact ⟨hb, true, h6, t, t, FilAt.grow (HKA.out.trans' hkk) t _ h4, h7, sameF_refl t, .inl ⟨rfl, rfl⟩⟩
      · rw [← parse_same] at h1
        exact ⟨_, false, hq2.2.1 h1, .mk 0 [] [] [], .mk 0 [] [] [], by rw [h5]; exact filAt_zero _, filAt_zero _, sameF_refl _, .inr ⟨rfl, rfl, h5, rfl⟩⟩
    have hk2 := hq2.2.2
    clear hq2
    obtain ⟨hb, y, rfl, ta, tb, hA, hB, hsm, hyx⟩ := hq2'
    obtain ⟨k', B', lb', cb', s', v'⟩ := hb
    have hkb := hk2.alloc (.cells #[.int .i64 k', .slice B' lb' cb', .string ⟨s'.toArray⟩, .string ⟨v'.toArray⟩] 26)
    have HKB : Hid (Keeps [] w2 (w2.alloc (.cells #[.int .i64 k', .slice B' lb' cb', .string ⟨s'.toArray⟩, .string ⟨v'.toArray⟩] 26))) := (Keeps.refl [] w2).alloc _
    have HXA2 := Lib.hid (blk_keep HXA.out hkb (by simp))
    have HXB2 := Lib.hid (heap_new8 w2 (.cells #[.int .i64 k', .slice B' lb' cb', .string ⟨s'.toArray⟩, .string ⟨v'.toArray⟩] 26))
    have HK2 := Lib.hid (HK1.out.trans' hkb)
    have HCALL := Lib.hid (HRS.out ta tb ⟨k, B, lb, cb, s, v⟩ ⟨k', B', lb', cb', s', v'⟩ _ (FilAt.grow HKB.out ta _ hA) (FilAt.grow HKB.out tb _ hB))
    rw [hsm] at HCALL
    obtain ⟨⟨z0, z1, z2, z3⟩, _⟩ := four_facts8 HXA2.out
    obtain ⟨⟨y0, y1, y2, y3⟩, _⟩ := four_facts8 HXB2.out
    clear hk2 hkb hA hB hsm
    unfold FH.val tv at *
    dsimp only at *
    rcases hyx with ⟨rfl, rfl⟩ | ⟨rfl, rfl, h5, h6⟩
    · go_wp2_with fail
      refine HCALL.out.mono ?_
      rintro e w3 ⟨rfl, hk3⟩
      have HK3 := Lib.hid (HK2.out.trans' hk3)
      clear hk3
      go_wp2_with fail
      refine (HKN.out _ HK3.out).mono ?_
      rintro e w9 ⟨rfl, hk9⟩
      have HK9 := Lib.hid (HK3.out.trans' hk9)
      clear hk9
      go_wp2_with fail
      go_ret
      exact ⟨by first | rfl | simp, HK9.out⟩
    · injection h5 with h5 q1 q2 q3 q4 q5
      subst h5 q1 q2 q3 q4 q5
      injection h6 with h6 q1 q2 q3 q4 q5
      subst h6 q1 q2 q3 q4 q5
      go_wp2_with fail
      refine HCALL.out.mono ?_
      rintro e w3 ⟨rfl, hk3⟩
      have HK3 := Lib.hid (HK2.out.trans' hk3)
      clear hk3
      go_wp2_with fail
      refine (HKN.out _ HK3.out).mono ?_
      rintro e w9 ⟨rfl, hk9⟩
      have HK9 := Lib.hid (HK3.out.trans' hk9)
      clear hk9
      go_wp2_with fail
      go_ret
      exact ⟨by first | rfl | simp, HK9.out⟩
end Go.Proofs.YtbfebljahjmjfaaGreatDoor
