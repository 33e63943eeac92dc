import Derived.Test.YtbfebljahjmjfaaGreatDoorQ13
import Derived.BigQuiet
import Derived.Recover
import Derived.Laws.Pointers
import Derived.Laws.EntriesVeiled
/- filter: may a subject stand; walked. -/
namespace Go.Proofs.YtbfebljahjmjfaaGreatDoor
open Go.RowKit Go.Maps Go.Sort Go.Shelf
set_option linter.unusedVariables false
set_option linter.unusedSimpArgs false
set_option maxRecDepth 100000

theorem sort8_is (A : Option Addr) (n c base : Nat) (l : List Txt) (w : World) (h : w.ownsRow base 9 1 (.slice A n c) n (l.map tv)) (hl : l.length = n) (hn : n ≤ 1000000) :
  Calls Tryz.prog 124 #[.slice A n c] w fun e w' => e = .returned (.tuple #[]) ∧ w'.ownsRow base 9 1 (.slice A n c) n ((l.mergeSort fun a b => decide (a ≤ b)).map tv) ∧ Keeps (Value.slice A n c).ownBlock.toList w w' := by
 rcases Nat.eq_zero_or_pos n with h0 | h0
 ·subst h0
  have hl' : l = [] := List.length_eq_zero_iff.1 hl
  subst hl'
  refine (AnyM.slices_Sort_string_none msort_lays A c w).mono ?_
  rintro e w2 ⟨rfl, rfl⟩
  exact ⟨rfl, by simpa using h, Keeps.refl _ _⟩
 ·obtain ⟨g, c2, hv⟩ : ∃ g c2, Value.slice A n c = .slice (some ⟨g, 0, none⟩) n c2 := by
   rcases h.2 with ⟨_, h2⟩ | ⟨g, cap, cur, hA, _⟩
   ·exfalso; omega
   ·exact ⟨g, cap, hA⟩
  injection hv with e1 _ e3
  subst e1 e3
  obtain ⟨hH, hbase, hc1, hc2, cur, hcur, hsz, htk⟩ := row_holds h hl h0
  have HS := AnyM.slices_Sort_string msort_lays g 0 c l w hH (lt_of_heap hcur) (by rw [hl]; omega)
  rw [hl] at HS
  refine HS.mono ?_
  rintro e w2 ⟨rfl, k, os, rfl⟩
  have hrow := ownsRow_sorted (w := w) (n := k) (os := os) (ss := l) (ts := l.mergeSort fun a b => decide (a ≤ b)) (by simp) hbase hcur (by rw [hl]; exact hc1) hc2 (by rw [hsz, Nat.mul_one])
  have hg := grownBy_sorted (w := w) (g := g) (n := k) (os := os) (l.mergeSort fun a b => decide (a ≤ b)).toArray
  rw [hl] at hrow
  exact ⟨rfl, hrow, Keeps.of_grown hg (fun x hx => .inl (by cases hx; simp [Value.ownBlock]))⟩
theorem compact8_is (A : Option Addr) (n c base : Nat) (l : List Txt) (w : World) (h : w.ownsRow base 9 1 (.slice A n c) n ((l.mergeSort fun a b => decide (a ≤ b)).map tv)) (hl : l.length = n) (hn : n ≤ 1000000) :
  Calls Tryz.prog 125 #[.slice A n c] w fun e w' => (∃ A' c', e = .returned (.slice A' (ordS l).length c')) ∧ Keeps (Value.slice A n c).ownBlock.toList w w' := by
 obtain ⟨ms, hms⟩ : ∃ ms, (l.mergeSort fun a b => decide (a ≤ b)) = ms := ⟨_, rfl⟩
 have hml : ms.length = n := by rw [← hms, List.length_mergeSort]; exact hl
 have hos : ordS l = Go.Lib.compact ms := by unfold ordS; rw [hms]
 rw [hms] at h
 rcases Nat.eq_zero_or_pos n with h0 | h0
 ·subst h0
  have hl' : ms = [] := List.length_eq_zero_iff.1 hml
  have hoe : ordS l = [] := by rw [hos, hl']; rfl
  refine (Any.slices_Compact_string_empty compact_lays A c w).mono ?_
  rintro e w3 ⟨rfl, rfl⟩
  exact ⟨⟨A, c, by rw [hoe]; rfl⟩, Keeps.refl _ _⟩
 ·obtain ⟨g, c2, hv⟩ : ∃ g c2, Value.slice A n c = .slice (some ⟨g, 0, none⟩) n c2 := by
   rcases h.2 with ⟨_, h2⟩ | ⟨g, cap, cur, hA, _⟩
   ·exfalso; omega
   ·exact ⟨g, cap, hA⟩
  injection hv with e1 _ e3
  subst e1 e3
  obtain ⟨hH, hbase, hc1, hc2, cur, hcur, hsz, htk⟩ := row_holds h hml h0
  have HS := Any.slices_Compact_string compact_lays g 0 c ms w hH (by rw [hml]; omega) (by rw [hml]; exact hc1)
  rw [hml, ← hos] at HS
  have hle := compact_len ms
  rw [← hos, hml] at hle
  refine HS.mono ?_
  rintro e w3 ⟨rfl, q, rfl⟩
  obtain ⟨ts, hts⟩ : ∃ ts, ordS l ++ List.replicate (n - (ordS l).length) ([] : List UInt8) = ts := ⟨_, rfl⟩
  rw [hts]
  have hg := grownBy_sorted (w := w) (g := g) (n := q) (os := #[]) ts.toArray
  rw [show grow (putRow encStr (Sort.ahead w q) g 0 ts.toArray) #[] = putRow encStr (Sort.ahead w q) g 0 ts.toArray from grow_none _] at hg
  exact ⟨⟨_, _, rfl⟩, Keeps.of_grown hg (fun x hx => .inl (by cases hx; simp [Value.ownBlock]))⟩
/-- One attribute laid down anew. -/
theorem one_attr8 (w : World) (a : At7) (h : a.fits w) : EntIn (w.alloc (.cells #[.string ⟨a.name.toArray⟩, .slice a.A a.n a.c] 70)) (some ⟨w.heap.size, 0, none⟩) 1 [a] := by
 have h2 := heap_new8 w (.cells #[.string ⟨a.name.toArray⟩, .slice a.A a.n a.c] 70)
 refine ⟨rfl, fun x hx => ?_, fun _ => ⟨_, 0, rfl, fun i x hi => ?_⟩⟩
 ·simp at hx
  subst hx
  exact h.grow ((Keeps.refl [] w).alloc _)
 ·cases i with
  | zero =>
   simp at hi
   subst hi
   exact ⟨cell_of_blk h2 0, cell_of_blk h2 1⟩
  | succ i => simp at hi
/-- May a subject stand? -/
def standsP (own beside : List Att) : Bool := beside.all (fun a => entOk [a]) && (decide ((ordS (namesT beside)).length = (namesT beside).length) && entOk own)
set_option maxHeartbeats 8000000 in
theorem stands8_is (S : SubV) (lo lb : List At7) (w : World) (h : SubOk w S lo lb) :
  Calls Tryz.prog 72 #[S.val] w fun e w' => e = .returned (.bool (standsP (ents lo) (ents lb))) ∧ Keeps [] w w' := by
 obtain ⟨iu, hiu, hzu0, hzu1, hzu2⟩ := info_parts str_info7
 have HCO := Lib.hid (fun X (hX : Keeps [] w X) => check7_is S.A S.n S.c lo X (EntIn.grow hX h.own) h.few)
 have HD := Lib.hid h.beside
 have hm9 : S.m ≤ 100000 := by rw [← h.beside.1]; exact h.few2.1
 have HF := Lib.hid h.few2
 have HEL : Hid ((ents lb).length = S.m) := by show _ = _; rw [ents_len, h.beside.1]
 obtain ⟨P, hP⟩ : ∃ P, standsP (ents lo) (ents lb) = P := ⟨_, rfl⟩
 have HP := Lib.hid hP
 rw [hP]
 obtain ⟨A, n, c, B, m, d⟩ := S
 unfold SubV.val
 dsimp only at HCO HD hm9 HEL ⊢
 have HB0 := Lib.hid (heap_new8 w (.cells #[.slice A n c, .slice B m d] 110))
 have HK0 : Hid (Keeps [] w (w.alloc (.cells #[.slice A n c, .slice B m d] 110))) := (Keeps.refl [] w).alloc _
 have HZ0 : Hid (w.heap.size + 1 ≤ (w.alloc (.cells #[.slice A n c, .slice B m d] 110)).heap.size) := by show _ ≤ _; simp
 clear h hP
 go_enter Tryz.func72, Tryz.ntmps72
 go_wp2_with fail
 go_loopw [3, 10] (fun x i wr => ∃ (j : Nat) (A2 : Option Addr) (c2 : Nat), x = .slice A2 j c2 ∧ i = .int .i64 (j : Int) ∧ j ≤ m ∧ Hid (((ents lb).take j).all (fun a => entOk [a]) = true) ∧ Hid (wr.ownsRow (w.heap.size + 1) 9 1 (.slice A2 j c2) j ((namesT ((ents lb).take j)).map tv)) ∧ Hid (Keeps [] w wr) ∧ Hid (wr.heap[w.heap.size]? = some (.cells #[.slice A n c, .slice B m d] 110 (0, 0))) ∧ Hid (w.heap.size + 1 ≤ wr.heap.size)) (fun _ i _ => m - (intOf i).toNat)
 case atStart => exact ⟨0, none, 0, rfl, rfl, Nat.zero_le _, by simp [Hid], by simpa [Hid, namesT] using World.ownsRow_nil _ (w.heap.size + 1) 9 1, HK0.out, HB0.out, HZ0.out⟩
 case round =>
  obtain ⟨j, A2, c2, rfl, rfl, hj, HA, HRW, HKR, HBX, HZR⟩ := hrel
  obtain ⟨⟨z0, z1⟩, _⟩ := blk2 HBX.out
  by_cases hlt : j < m
  ·obtain ⟨hl, hp, hc9⟩ := EntIn.grow HKR.out HD.out
   obtain ⟨b, o, hA9, hcc⟩ := hc9 (by omega)
   clear hc9
   subst hA9
   obtain ⟨a, hu⟩ : ∃ a, lb[j]? = some a := ⟨_, List.getElem?_eq_getElem (by omega)⟩
   obtain ⟨c0, c1⟩ := hcc j a hu
   have hfit := hp a (List.mem_of_getElem? hu)
   have hfn := HF.out.2 a (List.mem_of_getElem? hu)
   have HUE := Lib.hid (ents_at hu)
   have HCK := Lib.hid (fun X (hX : Keeps [] wr X) => check7_is (some ⟨X.heap.size, 0, none⟩) 1 1 [a] _ (one_attr8 X a (hfit.grow hX)) ⟨by simp, by simpa using hfn⟩)
   have hea : ents [a] = [a.att] := rfl
   rw [hea] at HCK
   obtain ⟨q, hq⟩ : ∃ q, entOk [a.att] = q := ⟨_, rfl⟩
   rw [hq] at HCK
   have HQ := Lib.hid hq
   have HNL : Hid (a.name.length ≤ 9223372036854775807) := hfit.1
   have HNE : Hid (namesT ((ents lb).take (j + 1)) = namesT ((ents lb).take j) ++ [a.name]) := by
    show _ = _
    rw [List.take_add_one, HUE.out]
    simp [namesT, At7.att]
   obtain ⟨nm, aA, an, ac, avs⟩ := a
   dsimp only at c0 c1 HCK HNE HNL
   unfold tv at c0
   have hji : (j : Int) < (m : Int) := by omega
   have hj0 : (0 : Int) ≤ (j : Int) := by omega
   have HK4 : Hid (Keeps [] wr (wr.alloc (.cells #[.string ⟨nm.toArray⟩, .slice aA an ac] 70))) := (Keeps.refl [] wr).alloc _
   have HBA := Lib.hid (heap_new8 wr (.cells #[.string ⟨nm.toArray⟩, .slice aA an ac] 70))
   obtain ⟨w4, hw4⟩ : ∃ w4, wr.alloc (.cells #[.string ⟨nm.toArray⟩, .slice aA an ac] 70) = w4 := ⟨_, rfl⟩
   rw [hw4] at HK4 HBA
   have HC4 := Lib.hid (HCK.out w4 HK4.out)
   have HK5 : Hid (Keeps [] w4 (w4.alloc (.cells #[.string ⟨nm.toArray⟩, .slice aA an ac] 70))) := (Keeps.refl [] w4).alloc _
   obtain ⟨⟨d0, d1⟩, _⟩ := blk2 HBA.out
   clear hcc hu hp hl hfit hfn hq hea HCK
   cases q
   ·have HPN : Hid (P = false) := by
     show _ = _
     rw [← HP.out]
     unfold standsP
     rw [show (ents lb).all (fun a => entOk [a]) = false from all_cut7 HUE.out HQ.out]
     rfl
    have HC5 : Hid (Calls Tryz.prog 123 #[.slice (some ⟨w4.heap.size, 0, none⟩) 1 1] (w4.alloc (.cells #[.string ⟨nm.toArray⟩, .slice aA an ac] 70)) fun e w' => e = .returned (.int .i64 2) ∧ Keeps [] (w4.alloc (.cells #[.string ⟨nm.toArray⟩, .slice aA an ac] 70)) w') := HC4.out
    clear HC4
    go_wp2_with fail
    refine HC5.out.mono ?_
    rintro e w5 ⟨rfl, hk5⟩
    have HK6 := Lib.hid (HKR.out.trans' (HK4.out.trans' (HK5.out.trans' hk5)))
    clear hk5
    go_wp2_with fail
    go_ret
    rw [HPN.out]
    exact ⟨rfl, HK6.out⟩
   ·have HAN : Hid (((ents lb).take (j + 1)).all (fun a => entOk [a]) = true) := by
     show _ = _
     rw [all_take7 HUE.out, HA.out, HQ.out]
     rfl
    have HC5 : Hid (Calls Tryz.prog 123 #[.slice (some ⟨w4.heap.size, 0, none⟩) 1 1] (w4.alloc (.cells #[.string ⟨nm.toArray⟩, .slice aA an ac] 70)) fun e w' => e = .returned (.int .i64 0) ∧ Keeps [] (w4.alloc (.cells #[.string ⟨nm.toArray⟩, .slice aA an ac] 70)) w') := HC4.out
    clear HC4
    go_wp2_with fail
    refine HC5.out.mono ?_
    rintro e w5 ⟨rfl, hk5⟩
    have HK6 := Lib.hid (HK4.out.trans' (HK5.out.trans' hk5))
    have HK7 : Hid (Keeps [] wr (w5.alloc (.cells #[.string ⟨nm.toArray⟩] 9))) := HK6.out.alloc _
    obtain ⟨⟨d0, d1⟩, _⟩ := blk2 (blk_keep (blk_keep HBA.out HK5.out (by simp)) hk5 (by simp))
    have HROW := Lib.hid (own_keep HRW.out HK7.out (by simp))
    have HSZ : Hid (w.heap.size + 1 ≤ (w5.alloc (.cells #[.string ⟨nm.toArray⟩] 9)).heap.size) := Nat.le_trans HZR.out HK7.out.size
    clear hk5
    go_wp2_with (at_builtin; refine wpList_append_opt rfl (.tmp 18) (.tmp 21) 68 rfl (w.heap.size + 1) 9 iu _ 1 16 Tryz.underlying68 hiu hzu0 hzu1 hzu2 rfl (by decide) (.slice A2 j c2) j ((namesT ((ents lb).take j)).map tv) rfl HROW.out (some ⟨w5.heap.size, 0, none⟩) 1 1 [tv nm] rfl rfl (src_one7 w5 nm _) (by intro u hu; simp at hu; subst hu; rfl) (by unfold maxLen; omega) (by omega) HSZ.out ?_; intro v8 w8 ho hg8 hs8; obtain ⟨A8, c8, hv8⟩ := own_slice ho; subst hv8; have HO8 : Hid (w8.ownsRow (w.heap.size + 1) 9 1 (.slice A8 (j + 1) c8) (j + 1) ((namesT ((ents lb).take (j + 1))).map tv)) := (by show World.ownsRow _ _ _ _ _ _ _; rw [HNE.out, List.map_append]; exact ho); have HK8 : Hid (Keeps [] w w8) := (HKR.out.trans' HK7.out).trans (Keeps.of_grown (bs := (Value.slice A2 j c2).ownBlock.toList) hg8 (fun x hx => .inl (by rw [hx]; simp))) (fun x hx => .inr (by have := (HRW.out.lt x (by simpa using hx)).1; omega)); have HBX8 := Lib.hid (boxes_onb (gm := w.heap.size + 1) HRW.out (HK7.out.mono (by simp)) hg8 (by omega) (by omega) HBX.out); have HZ8 : Hid (w.heap.size + 1 ≤ w8.heap.size) := Nat.le_trans HSZ.out (Keeps.of_grown (bs := (Value.slice A2 j c2).ownBlock.toList) hg8 (fun x hx => .inl (by rw [hx]; simp))).size; clear ho hg8 hs8)
    go_roundw
    case rel => exact ⟨j + 1, A8, c8, rfl, by go_num, by omega, HAN.out, HO8.out, HK8.out, HBX8.out, HZ8.out⟩
    case measure => simp [intOf]; omega
  ·obtain rfl : j = m := by omega
   have htl : (ents lb).take j = ents lb := List.take_of_length_le (by rw [HEL.out]; exact Nat.le_refl _)
   have ha := HA.out
   have hrw := HRW.out
   rw [htl] at ha hrw
   have hnl : (namesT (ents lb)).length = j := by unfold namesT; rw [List.length_map]; exact HEL.out
   have HPQ : Hid (P = (decide ((ordS (namesT (ents lb))).length = j) && entOk (ents lo))) := by
    show _ = _
    rw [← HP.out]
    unfold standsP
    rw [ha, hnl]
    rfl
   have HSO := Lib.hid (sort8_is A2 j c2 _ (namesT (ents lb)) wr hrw hnl (by omega))
   have hown : ∀ x ∈ (Value.slice A2 j c2).ownBlock.toList, w.heap.size + 1 ≤ x := fun x hx => (hrw.lt x (by simpa using hx)).1
   clear ha htl
   go_wp2_with fail
   refine HSO.out.mono ?_
   rintro e w3 ⟨rfl, hr3, hk3⟩
   have HR3 := Lib.hid hr3
   have HK3 := Lib.hid (HKR.out.trans hk3 (fun x hx => .inr (by have := hown x hx; omega)))
   have HB3 := Lib.hid (blk_keep HBX.out hk3 (fun hm => by have := hown _ hm; omega))
   have HCL := Lib.hid (clones_is A2 j c2 _ w3 (StrsIn.of_own hr3 (by rw [List.length_mergeSort]; exact hnl) (fun s hs => by
    have hs' := List.mem_mergeSort.1 hs
    unfold namesT at hs'
    obtain ⟨x, hx, rfl⟩ := List.mem_map.1 hs'
    unfold ents at hx
    obtain ⟨y, hy, rfl⟩ := List.mem_map.1 hx
    exact (HD.out.2.1 y hy).1)) (by omega))
   have HNL := Lib.hid hnl
   clear hr3 hk3 hrw hnl
   go_wp2_with fail
   refine HCL.out.mono ?_
   rintro e w4 ⟨A4, c4, rfl, hr4, hk4⟩
   have HK4 := Lib.hid (HK3.out.trans' hk4)
   have HB4 := Lib.hid (blk_keep HB3.out hk4 (by simp))
   have HCM := Lib.hid (compact8_is A4 j c4 _ (namesT (ents lb)) w4 hr4 HNL.out (by omega))
   have hown4 : ∀ x ∈ (Value.slice A4 j c4).ownBlock.toList, w3.heap.size ≤ x := fun x hx => (hr4.lt x (by simpa using hx)).1
   have hw3 : w.heap.size < w3.heap.size := lt_of_heap HB3.out
   clear hr4 hk4
   go_wp2_with fail
   refine HCM.out.mono ?_
   rintro e w5 ⟨⟨A5, c5, rfl⟩, hk5⟩
   have HK5 := Lib.hid (HK4.out.trans hk5 (fun x hx => .inr (by have := hown4 x hx; have := HK3.out.size; omega)))
   have HB5 := Lib.hid (blk_keep HB4.out hk5 (fun hm => by have := hown4 _ hm; omega))
   obtain ⟨⟨y0, y1⟩, _⟩ := blk2 HB5.out
   generalize (ordS (namesT (ents lb))).length = u at HPQ ⊢
   clear hk5 z0 z1
   by_cases hu : u = j
   ·subst hu
    have hpq := HPQ.out
    simp only [decide_true, Bool.true_and] at hpq
    have HCE := Lib.hid (HCO.out w5 HK5.out)
    obtain ⟨q, hq⟩ : ∃ q, entOk (ents lo) = q := ⟨_, rfl⟩
    rw [hq] at HCE hpq
    have HPQ2 := Lib.hid hpq
    clear hq HPQ hpq
    cases q
    ·have HCF : Hid (Calls Tryz.prog 123 #[.slice A n c] w5 fun e w' => e = .returned (.int .i64 2) ∧ Keeps [] w5 w') := HCE.out
     clear HCE
     go_wp2_with fail
     refine HCF.out.mono ?_
     rintro e w6 ⟨rfl, hk6⟩
     have HK6 := Lib.hid (HK5.out.trans' hk6)
     clear hk6
     go_wp2_with fail
     go_ret
     rw [HPQ2.out]
     exact ⟨rfl, HK6.out⟩
    ·have HCF : Hid (Calls Tryz.prog 123 #[.slice A n c] w5 fun e w' => e = .returned (.int .i64 0) ∧ Keeps [] w5 w') := HCE.out
     clear HCE
     go_wp2_with fail
     refine HCF.out.mono ?_
     rintro e w6 ⟨rfl, hk6⟩
     have HK6 := Lib.hid (HK5.out.trans' hk6)
     clear hk6
     go_wp2_with fail
     go_ret
     rw [HPQ2.out]
     exact ⟨rfl, HK6.out⟩
   ·have hui : ¬ (u : Int) = (j : Int) := by omega
    have hub : ((u : Int) == (j : Int)) = false := by simpa using hui
    have HPN : Hid (P = false) := by
     show _ = _
     rw [HPQ.out, show decide (u = j) = false by simpa using hu]
     rfl
    go_wp2_with fail
    go_ret
    rw [HPN.out]
    exact ⟨rfl, HK5.out⟩
end Go.Proofs.YtbfebljahjmjfaaGreatDoor
/- filter: what gave up is told. -/
namespace Go.Proofs.YtbfebljahjmjfaaGreatDoor
open Go.RowKit Go.Shelf
set_option linter.unusedVariables false
set_option linter.unusedSimpArgs false
set_option maxRecDepth 100000

theorem frefusal_nil (w : World) : Calls Tryz.prog 29 #[.nilIface] w fun e w' => e = .returned (.int .i64 0) ∧ w = w' := by
 go_enter Tryz.func29, Tryz.ntmps29
 go_wp2_with fail
 go_ret
 exact ⟨rfl, rfl⟩
theorem frefusal_no (n : Int) (w : World) : Calls Tryz.prog 29 #[.iface 27 (.int .i64 n)] w fun e w' => e = .returned (.int .i64 n) ∧ w = w' := by
 have hta : ∀ W, (Instr.typeAssert (.iface 27 (.int .i64 n)) 20 27 true).run Tryz.prog W = .ok (.tuple #[.int .i64 n, .bool true]) W := fun W => by kernel_rfl
 go_enter Tryz.func29, Tryz.ntmps29
 go_wp2_with fail
 go_ret
 exact ⟨rfl, rfl⟩
theorem fcheck_panicking (p : Nat) (x n : Int) (older : List PanicEntry) (w : World) (hc : w.cell? ⟨p, 0, none⟩ = some (.int .i64 x)) (hz : w.frozen? ⟨p, 0, none⟩ = false) :
  CallsD Tryz.prog 35 #[.pointer (some ⟨p, 0, none⟩)] (.panicking ({ v := .iface 27 (.int .i64 n), recovered := false } :: older)) w fun e u' w' =>
   e = .returned (.tuple #[]) ∧ u' = .panicking ({ v := .iface 27 (.int .i64 n), recovered := true } :: older) ∧ w' = w.setCell ⟨p, 0, none⟩ (.int .i64 n) := by
 refine callsD_of_wpS Tryz.func35 rfl fun c₀ cs hu => ?_
 apply wpS_region
 simp [wpOpsS, go_sem, recoverD, hu, Tryz.ntmps35, Exit.thenS]
 refine (frefusal_no n w).mono ?_
 rintro e w1 ⟨rfl, rfl⟩
 simp [go_sem, hc, hz]
 simp [bodyPostS, results, Tryz.results35]
theorem fcheck_idle (p : Nat) (x : Int) (w : World) (hc : w.cell? ⟨p, 0, none⟩ = some (.int .i64 x)) (hz : w.frozen? ⟨p, 0, none⟩ = false) :
  CallsD Tryz.prog 35 #[.pointer (some ⟨p, 0, none⟩)] .returning w fun e u' w' =>
   e = .returned (.tuple #[]) ∧ u' = .returning ∧ w' = w.setCell ⟨p, 0, none⟩ (.int .i64 0) := by
 refine callsD_of_wpS Tryz.func35 rfl fun c₀ cs hu => ?_
 apply wpS_region
 simp [wpOpsS, go_sem, recoverD, hu, Tryz.ntmps35, Exit.thenS]
 refine (frefusal_nil w).mono ?_
 rintro e w1 ⟨rfl, rfl⟩
 simp [go_sem, hc, hz]
 cases c₀
 simp_all [bodyPostS, results, Tryz.results35]
theorem fmeans_panicking (p : Nat) (x n : Int) (older : List PanicEntry) (w : World) (hc : w.cell? ⟨p, 0, none⟩ = some (.int .i64 x)) (hz : w.frozen? ⟨p, 0, none⟩ = false) :
  CallsD Tryz.prog 70 #[.pointer (some ⟨p, 0, none⟩)] (.panicking ({ v := .iface 27 (.int .i64 n), recovered := false } :: older)) w fun e u' w' =>
   e = .returned (.tuple #[]) ∧ u' = .panicking ({ v := .iface 27 (.int .i64 n), recovered := true } :: older) ∧ w' = w.setCell ⟨p, 0, none⟩ (.int .i64 n) := by
 refine callsD_of_wpS Tryz.func70 rfl fun c₀ cs hu => ?_
 apply wpS_region
 simp [wpOpsS, go_sem, recoverD, hu, Tryz.ntmps70, Exit.thenS]
 refine (frefusal_no n w).mono ?_
 rintro e w1 ⟨rfl, rfl⟩
 simp [go_sem, hc, hz]
 simp [bodyPostS, results, Tryz.results70]
theorem fmeans_idle (p : Nat) (x : Int) (w : World) (hc : w.cell? ⟨p, 0, none⟩ = some (.int .i64 x)) (hz : w.frozen? ⟨p, 0, none⟩ = false) :
  CallsD Tryz.prog 70 #[.pointer (some ⟨p, 0, none⟩)] .returning w fun e u' w' =>
   e = .returned (.tuple #[]) ∧ u' = .returning ∧ w' = w.setCell ⟨p, 0, none⟩ (.int .i64 0) := by
 refine callsD_of_wpS Tryz.func70 rfl fun c₀ cs hu => ?_
 apply wpS_region
 simp [wpOpsS, go_sem, recoverD, hu, Tryz.ntmps70, Exit.thenS]
 refine (frefusal_nil w).mono ?_
 rintro e w1 ⟨rfl, rfl⟩
 simp [go_sem, hc, hz]
 cases c₀
 simp_all [bodyPostS, results, Tryz.results70]
theorem fparse_panicking (p : Nat) (x n : Int) (older : List PanicEntry) (w : World) (hc : w.cell? ⟨p, 0, none⟩ = some (.int .i64 x)) (hz : w.frozen? ⟨p, 0, none⟩ = false) :
  CallsD Tryz.prog 28 #[.pointer (some ⟨p, 0, none⟩)] (.panicking ({ v := .iface 27 (.int .i64 n), recovered := false } :: older)) w fun e u' w' =>
   e = .returned (.tuple #[]) ∧ u' = .panicking ({ v := .iface 27 (.int .i64 n), recovered := true } :: older) ∧ w' = w.setCell ⟨p, 0, none⟩ (.int .i64 n) := by
 refine callsD_of_wpS Tryz.func28 rfl fun c₀ cs hu => ?_
 apply wpS_region
 simp [wpOpsS, go_sem, recoverD, hu, Tryz.ntmps28, Exit.thenS]
 refine (frefusal_no n w).mono ?_
 rintro e w1 ⟨rfl, rfl⟩
 simp [go_sem, hc, hz]
 simp [bodyPostS, results, Tryz.results28]
theorem fparse_idle (p : Nat) (x : Int) (w : World) (hc : w.cell? ⟨p, 0, none⟩ = some (.int .i64 x)) (hz : w.frozen? ⟨p, 0, none⟩ = false) :
  CallsD Tryz.prog 28 #[.pointer (some ⟨p, 0, none⟩)] .returning w fun e u' w' =>
   e = .returned (.tuple #[]) ∧ u' = .returning ∧ w' = w.setCell ⟨p, 0, none⟩ (.int .i64 0) := by
 refine callsD_of_wpS Tryz.func28 rfl fun c₀ cs hu => ?_
 apply wpS_region
 simp [wpOpsS, go_sem, recoverD, hu, Tryz.ntmps28, Exit.thenS]
 refine (frefusal_nil w).mono ?_
 rintro e w1 ⟨rfl, rfl⟩
 simp [go_sem, hc, hz]
 cases c₀
 simp_all [bodyPostS, results, Tryz.results28]
theorem ftext_panicking (p : Nat) (x n : Int) (older : List PanicEntry) (w : World) (hc : w.cell? ⟨p, 0, none⟩ = some (.int .i64 x)) (hz : w.frozen? ⟨p, 0, none⟩ = false) :
  CallsD Tryz.prog 74 #[.pointer (some ⟨p, 0, none⟩)] (.panicking ({ v := .iface 27 (.int .i64 n), recovered := false } :: older)) w fun e u' w' =>
   e = .returned (.tuple #[]) ∧ u' = .panicking ({ v := .iface 27 (.int .i64 n), recovered := true } :: older) ∧ w' = w.setCell ⟨p, 0, none⟩ (.int .i64 n) := by
 refine callsD_of_wpS Tryz.func74 rfl fun c₀ cs hu => ?_
 apply wpS_region
 simp [wpOpsS, go_sem, recoverD, hu, Tryz.ntmps74, Exit.thenS]
 refine (frefusal_no n w).mono ?_
 rintro e w1 ⟨rfl, rfl⟩
 simp [go_sem, hc, hz]
 simp [bodyPostS, results, Tryz.results74]
theorem ftext_idle (p : Nat) (x : Int) (w : World) (hc : w.cell? ⟨p, 0, none⟩ = some (.int .i64 x)) (hz : w.frozen? ⟨p, 0, none⟩ = false) :
  CallsD Tryz.prog 74 #[.pointer (some ⟨p, 0, none⟩)] .returning w fun e u' w' =>
   e = .returned (.tuple #[]) ∧ u' = .returning ∧ w' = w.setCell ⟨p, 0, none⟩ (.int .i64 0) := by
 refine callsD_of_wpS Tryz.func74 rfl fun c₀ cs hu => ?_
 apply wpS_region
 simp [wpOpsS, go_sem, recoverD, hu, Tryz.ntmps74, Exit.thenS]
 refine (frefusal_nil w).mono ?_
 rintro e w1 ⟨rfl, rfl⟩
 simp [go_sem, hc, hz]
 cases c₀
 simp_all [bodyPostS, results, Tryz.results74]
end Go.Proofs.YtbfebljahjmjfaaGreatDoor
/- filter: Check and Means; walked. -/
namespace Go.Proofs.YtbfebljahjmjfaaGreatDoor
open Go.RowKit Go.Shelf
set_option linter.unusedVariables false
set_option linter.unusedSimpArgs false
set_option maxRecDepth 100000

/-- How Check ends. -/
def ChkQ (t : FV) (w : World) (e : Ending) (w' : World) : Prop := e = .returned (.int .i64 (if rightF t then 0 else 2)) ∧ Keeps [] w w'
set_option maxHeartbeats 4000000 in
theorem check8_is (t : FV) (h : FH) (w : World) (ht : FilAt w t h) :
  Calls Tryz.prog 12 #[h.val] w (ChkQ t w) := by
 have hmf : ∀ (fn : Fn) (first cap : Array Value) (w : World), (Instr.makeFunc fn first cap).run Tryz.prog w = .ok (.func fn first cap) w := fun _ _ _ _ => rfl
 have HSO := Lib.hid (fun X (hX : Keeps [] w X) => sound_is 2 t h X (FilAt.grow hX t h ht))
 obtain ⟨k, B, lb, cb, s, v⟩ := h
 unfold FH.val tv at *
 dsimp only at *
 clear ht
 have b1 := heap_new8 w (.cells #[.int .i64 k, .slice B lb cb, .string ⟨s.toArray⟩, .string ⟨v.toArray⟩] 26)
 have k1 : Keeps [] w (w.alloc (.cells #[.int .i64 k, .slice B lb cb, .string ⟨s.toArray⟩, .string ⟨v.toArray⟩] 26)) := (Keeps.refl [] w).alloc _
 have k2 : Keeps [] (w.alloc (.cells #[.int .i64 k, .slice B lb cb, .string ⟨s.toArray⟩, .string ⟨v.toArray⟩] 26)) ((w.alloc (.cells #[.int .i64 k, .slice B lb cb, .string ⟨s.toArray⟩, .string ⟨v.toArray⟩] 26)).alloc (.cells #[.int .i64 0] 27)) := (Keeps.refl [] _).alloc _
 have b2 := heap_new8 (w.alloc (.cells #[.int .i64 k, .slice B lb cb, .string ⟨s.toArray⟩, .string ⟨v.toArray⟩] 26)) (.cells #[.int .i64 0] 27)
 have HBF := Lib.hid (blk_keep b1 k2 (by simp))
 have HBN := Lib.hid b2
 have HKB := Lib.hid (k1.trans' k2)
 simp only [World.size_alloc] at HBN
 clear k1 k2 b1 b2
 have HEND : Hid (∀ X v, Keeps [] w X → Keeps [] w (X.setCell ⟨w.heap.size + 1, 0, none⟩ v)) := fun X v hk => hk.setCell (.inr (Nat.le_succ _)) _
 obtain ⟨⟨z0, z1, z2, z3⟩, _⟩ := four_facts8 HBF.out
 go_enter_defers Tryz.func12, Tryz.ntmps12
 go_wp2_with fail
 generalize (w.alloc (.cells #[.int .i64 k, .slice B lb cb, .string ⟨s.toArray⟩, .string ⟨v.toArray⟩] 26)).alloc (.cells #[.int .i64 0] 27) = W1 at HBF HBN HKB z0 z1 z2 z3 ⊢
 refine (HSO.out W1 HKB.out).mono ?_
 rintro e w2 ⟨⟨h', hr, rfl, _⟩ | ⟨hr, rfl⟩, hk2⟩
 ·have HR := Lib.hid hr
  have HK2 := Lib.hid (HKB.out.trans' hk2)
  have hb := blk_keep HBN.out hk2 (by simp)
  have hc := cell_of_blk hb 0
  have hz := free_of_blk hb 0
  have HC1 := Lib.hid (World.cell?_setCell_same w2 ⟨w.heap.size + 1, 0, none⟩ (.int .i64 0) hc)
  have HZ1 : Hid ((w2.setCell ⟨w.heap.size + 1, 0, none⟩ (.int .i64 0)).frozen? ⟨w.heap.size + 1, 0, none⟩ = false) := by show _ = _; rw [World.frozen?_setCell]; exact hz
  have HC2 := Lib.hid (World.cell?_setCell_same (w2.setCell ⟨w.heap.size + 1, 0, none⟩ (.int .i64 0)) ⟨w.heap.size + 1, 0, none⟩ (.int .i64 0) HC1.out)
  have HRQ : Hid (ChkQ t w (.returned (.int .i64 0)) ((w2.setCell ⟨w.heap.size + 1, 0, none⟩ (.int .i64 0)).setCell ⟨w.heap.size + 1, 0, none⟩ (.int .i64 0))) := ⟨by rw [hr]; rfl, HEND.out _ _ (HEND.out _ _ HK2.out)⟩
  clear hr hk2 hb z0 z1 z2 z3
  go_wp2_with fail
  refine leaves_cons (f := 35) (args := #[.pointer (some ⟨w.heap.size + 1, 0, none⟩)]) (by simp) (by simp [go_sem]) ?_
  refine (fcheck_idle (w.heap.size + 1) 0 _ HC1.out HZ1.out).mono ?_
  rintro e u' w'' ⟨rfl, rfl, rfl⟩
  have hcs2 := HC2.out
  simp [Leaves, settle, results, Tryz.results12, go_sem, hcs2]
  exact HRQ.out
 ·have HR := Lib.hid hr
  have HK2 := Lib.hid (HKB.out.trans' hk2)
  have hb := blk_keep HBN.out hk2 (by simp)
  have hc := cell_of_blk hb 0
  have hz := free_of_blk hb 0
  have HC1 := Lib.hid (World.cell?_setCell_same w2 ⟨w.heap.size + 1, 0, none⟩ (.int .i64 2) hc)
  have HRQ : Hid (ChkQ t w (.returned (.int .i64 2)) (w2.setCell ⟨w.heap.size + 1, 0, none⟩ (.int .i64 2))) := ⟨by rw [hr]; rfl, HEND.out _ _ HK2.out⟩
  clear hr hk2 hb z0 z1 z2 z3
  go_wp2_with fail
  refine leaves_cons (f := 35) (args := #[.pointer (some ⟨w.heap.size + 1, 0, none⟩)]) (by simp) (by simp [go_sem]) ?_
  refine (fcheck_panicking (w.heap.size + 1) 0 2 [] w2 hc hz).mono ?_
  rintro e u' w'' ⟨rfl, rfl, rfl⟩
  have hcs2 := HC1.out
  simp [Leaves, settle, results, Tryz.results12, go_sem, hcs2]
  exact HRQ.out
end Go.Proofs.YtbfebljahjmjfaaGreatDoor
