import Derived.Test.YtbfebljahjmjfaaGreatDoorQ12
import Derived.BigQuiet
/- filter: is a subject meant: through with truths; walked. -/
namespace Go.Proofs.YtbfebljahjmjfaaGreatDoor
open Go.RowKit Go.Shelf
set_option linter.unusedVariables false
set_option linter.unusedSimpArgs false
set_option maxRecDepth 100000

mutual
/-- What a filter means. -/
def meanF (own beside : List Att) : FV → Bool
 | .mk k l s v => meanK own beside k s v (meanFL own beside l)
def meanFL (own beside : List Att) : List FV → List Bool
 | [] => []
 | t :: r => meanF own beside t :: meanFL own beside r
end
theorem meanFL_map (own beside : List Att) : ∀ l : List FV, meanFL own beside l = l.map (meanF own beside)
 | [] => by simp [meanFL]
 | t :: r => by simp [meanFL, meanFL_map own beside r]
theorem alone_kinds {k : Int} {n : Nat} {s v : Txt} (h : aloneH k n s v = true) : 1 ≤ k ∧ k ≤ 6 ∧ (k = 3 → n = 1) := by
 unfold aloneH at h
 split at h
 ·omega
 ·split at h
  ·simp at h
   exact ⟨by omega, by omega, fun _ => h.2.2⟩
  ·split at h
   ·omega
   ·split at h
    ·omega
    ·cases h
theorem alone_low (k : Int) (n : Nat) (s v : Txt) : aloneH k n (smallL s) v = aloneH k n s v := by
 unfold aloneH
 rw [nameT_low8, show (smallL s).isEmpty = s.isEmpty by cases s <;> rfl]
mutual
theorem thruF_low : ∀ (t : FV) (d m : Nat), thruF aloneF d m (lowF t) = thruF aloneF d m t
 | .mk k l s v, d, m => by
  simp only [lowF, thruF, thruL_low l, aloneF_is, alone_low]
  rw [show (lowFL l).length = l.length by rw [lowFL_map, List.length_map]]
  cases thruL aloneF (d + 1) (m + 1) l <;> rfl
theorem thruL_low : ∀ (l : List FV) (d m : Nat), thruL aloneF d m (lowFL l) = thruL aloneF d m l
 | [], d, m => by simp [lowFL]
 | t :: r, d, m => by
  simp only [lowFL, thruL, thruF_low t]
  cases thruF aloneF d m t with
  | none => rfl
  | some n => exact thruL_low r d n
end
theorem bool_info8 : (Tryz.prog.info? 4).map (fun i => (i.zero, i.size, i.bytes)) = some (some (.bool false), 1, 1) := by kernel_rfl
theorem src_oneb (w : World) (q : Bool) (t : TypeId) : Src (w.alloc (.cells #[.bool q] t)) (some ⟨w.heap.size, 0, none⟩) 1 [.bool q] := by
 refine ⟨(fun h => by cases h), fun ad hA j u hu => ?_⟩
 cases hA
 rw [add_at, Nat.zero_add, World.cell?_alloc_new]
 simpa using hu
/-- What a round finds. -/
structure ThrBS (own beside : List Att) (w wr : World) (gm gn : Nat) (no : Int) (d m : Nat) (l : List FV) (j : Nat) (A : Option Addr) (c n : Nat) : Prop where
 cnt : thruL aloneF (d + 1) (m + 1) (l.take j) = some n
 pass : PassAt wr gm gn n no
 row : wr.ownsRow (w.heap.size + 1) 4 1 (.slice A j c) j ((meanFL own beside (l.take j)).map Value.bool)
 keep : Keeps [gm] w wr
 siz : w.heap.size + 1 ≤ wr.heap.size
theorem ThrBS.step {own beside : List Att} {w wr w6 w7 w8 : World} {gm gn : Nat} {no : Int} {d m : Nat} {l : List FV} {j : Nat} {A A8 : Option Addr} {c c8 : Nat} {n n' : Nat} (H : ThrBS own beside w wr gm gn no d m l j A c n) (hgm : gm < w.heap.size) (hgn : gn < w.heap.size)
  {t : FV} (ht : l[j]? = some t) (hn : thruF aloneF (d + 1) n t = some n') (k6 : Keeps [gm] wr w6) (hp6 : PassAt w6 gm gn n' no) (k7 : Keeps [] w6 w7)
  (ho : w8.ownsRow (w.heap.size + 1) 4 1 (.slice A8 (j + 1) c8) (j + 1) ((meanFL own beside (l.take j)).map Value.bool ++ [.bool (meanF own beside t)])) (hg : w7.grownBy w8 (Value.slice A j c).ownBlock) :
  ThrBS own beside w w8 gm gn no d m l (j + 1) A8 c8 n' := by
 have k8 : Keeps (Value.slice A j c).ownBlock.toList w7 w8 := Keeps.of_grown hg (fun x hx => .inl (by rw [hx]; simp))
 have hvl : ∀ x ∈ (Value.slice A j c).ownBlock.toList, w.heap.size + 1 ≤ x ∧ x < wr.heap.size := fun x hx => H.row.lt x (by simpa using hx)
 have k68 : Keeps (Value.slice A j c).ownBlock.toList w6 w8 := (k7.mono (by simp)).trans k8 (fun x hx => .inl hx)
 have kr8 : Keeps (gm :: (Value.slice A j c).ownBlock.toList) wr w8 := (k6.mono (cs := gm :: (Value.slice A j c).ownBlock.toList) (by simp)).trans k68 (fun x hx => .inl (List.mem_cons_of_mem _ hx))
 have htk : l.take (j + 1) = l.take j ++ [t] := by rw [List.take_add_one, ht]; rfl
 refine ⟨by rw [htk, thruL_snoc, H.cnt]; exact hn, hp6.keep k68 (fun hm => by have := (hvl gm hm).1; omega) (fun hm => by have := (hvl gn hm).1; omega), by rw [htk, meanFL_map, List.map_append, List.map_append, ← meanFL_map]; exact ho, H.keep.trans kr8 (fun x hx => ?_), by have := H.siz; have := kr8.size; omega⟩
 simp only [List.mem_cons] at hx
 rcases hx with hx | hx
 ·exact .inl (by simp [hx])
 ·exact .inr (by have := (hvl x hx).1; omega)
theorem boxes_onb {w wr w7 w8 : World} {gm n c j : Nat} {A : Option Addr} {xs : List Value} {o : Obj} {b : Nat} {e : TypeId} {sz : Nat} (hr : wr.ownsRow (w.heap.size + 1) e sz (.slice A j c) n xs) (k : Keeps [gm] wr w7) (hg : w7.grownBy w8 (Value.slice A j c).ownBlock) (hb : b < w.heap.size + 1) (hne : b ≠ gm) (h : wr.heap[b]? = some o) : w8.heap[b]? = some o :=
 blk_keep (blk_keep h k (by simpa using hne)) (Keeps.of_grown (bs := (Value.slice A j c).ownBlock.toList) hg (fun x hx => .inl (by rw [hx]; simp))) (fun hm => by have := (hr.lt b (by simpa using hm)).1; omega)
/-- How isMeant's through ends. -/
def ThrBQ (own beside : List Att) (no : Int) (n : Nat) (t : FV) (gm gn : Nat) (w : World) (e : Ending) (w' : World) : Prop := e = .returned (.bool (meanF own beside t)) ∧ PassAt w' gm gn n no ∧ Keeps [gm] w w'
set_option maxHeartbeats 16000000 in
theorem thrB_is (gp gx gw gm gn gs : Nat) (no : Int) (w0 : World) (S : SubV) (lo lb' : List At7) (hgm0 : w0.heap.size ≤ gm) (hgsm : gs ≠ gm) (hgs : w0.heap[gs]? = some (.cells #[.slice S.A S.n S.c, .slice S.B S.m S.d] 110 (0, 0))) (hS : SubOk w0 S lo lb') : ∀ (t : FV) (d m nn : Nat) (h : FH) (w : World), d ≤ 17 → m ≤ 200 → FilAt w0 t h → Keeps [] w0 w →
  EnvF gp gx gw gm gn 192 (.func (.func 128) #[] #[.pointer (some ⟨gs, 0, none⟩)]) w → PassAt w gm gn m no → thruF aloneF d m t = some nn →
  Calls Tryz.prog 192 #[h.val, .int .i64 (d : Int), .pointer (some ⟨gp, 0, none⟩), .pointer (some ⟨gx, 0, none⟩), .pointer (some ⟨gw, 0, none⟩)] w (ThrBQ (ents lo) (ents lb') no nn t gm gn w) := by
 obtain ⟨iu, hiu, hzu0, hzu1, hzu2⟩ := info_parts bool_info8
 intro t
 induction t using FV.ind with
 | h k l s v ih =>
  intro d m nn h w hd hm ht hk0 hE hP hthr
  have IH := Lib.hid ih
  have hgmw := lt_of_heap hP.many
  have hgnw := lt_of_heap hP.no
  obtain ⟨hC1, hC2, hC3, _⟩ := thruF_le aloneF _ _ _ _ hthr
  rw [thrF_in ⟨hC2, hC3⟩] at hthr
  obtain ⟨n9, hn9, hal9⟩ : ∃ n9, thruL aloneF (d + 1) (m + 1) l = some n9 ∧ aloneF (.mk k l s v) = true ∧ n9 = nn := by
   cases hq : thruL aloneF (d + 1) (m + 1) l with
   | none => rw [hq] at hthr; cases hthr
   | some n9 =>
    rw [hq] at hthr
    dsimp only at hthr
    split at hthr
    ·rename_i ha
     injection hthr with hthr
     exact ⟨n9, rfl, ha, hthr⟩
    ·cases hthr
  obtain ⟨hal, rfl⟩ := hal9
  rw [aloneF_is] at hal
  have HPS := Lib.hid (fun X hX => pass8_is d gm gn m no X (by omega) (by omega) hX)
  obtain ⟨rfl, rfl, rfl, h4, h5, h6, h7, h8, h9, h10, h11⟩ := ht
  obtain ⟨k, B, lb, cb, s, v⟩ := h
  have hl : l.length = lb := h8
  have hlb : lb ≤ 9223372036854775807 := Nat.le_trans h9 h10
  dsimp only at h6 h7 hal
  rw [hl] at hal
  have HAL := Lib.hid (alone_kinds hal)
  have HSL : Hid (s.length ≤ 9223372036854775807 ∧ v.length ≤ 9223372036854775807) := ⟨h6, h7⟩
  have HTH := Lib.hid hn9
  have HI := Lib.hid h11
  have HL := Lib.hid hl
  have HK0 := Lib.hid hk0
  have HE := Lib.hid hE
  have HP := Lib.hid hP
  have HB1 := Lib.hid (heap_new8 w (.cells #[.int .i64 k, .slice B lb cb, .string ⟨s.toArray⟩, .string ⟨v.toArray⟩] 26))
  have HKB : Hid (Keeps [] w (w.alloc (.cells #[.int .i64 k, .slice B lb cb, .string ⟨s.toArray⟩, .string ⟨v.toArray⟩] 26))) := (Keeps.refl [] w).alloc _
  have HZ : Hid (w.heap.size + 1 ≤ (w.alloc (.cells #[.int .i64 k, .slice B lb cb, .string ⟨s.toArray⟩, .string ⟨v.toArray⟩] 26)).heap.size) := by show _ ≤ _; simp
  clear h4 h5 h6 h7 h8 h9 h10 h11 hl hk0 hE hP ih hal hn9 hthr
  unfold FH.val tv
  dsimp only
  have HEW := HE.out.keep (HKB.out.mono (cs := [gm]) (by simp))
  obtain ⟨e1, e2, e3, _, _, _⟩ := HEW
  go_enter Tryz.func192, Tryz.ntmps192
  go_wp2_with fail
  have HP1 := Lib.hid (HP.out.keep HKB.out (by simp) (by simp))
  generalize w.alloc (.cells #[.int .i64 k, .slice B lb cb, .string ⟨s.toArray⟩, .string ⟨v.toArray⟩] 26) = W1 at HKB HB1 HZ HP1 e1 e2 e3 ⊢
  refine (HPS.out W1 HP1.out).mono ?_
  rintro e w2 ⟨⟨hc, rfl⟩ | ⟨hc, rfl⟩, hp2, hk2⟩
  rotate_left
  ·exact absurd ⟨hC2, hC3⟩ hc
  ·have HK2 := Lib.hid ((HKB.out.mono (cs := [gm]) (by simp)).trans' hk2)
   have HB3 := Lib.hid (blk_keep HB1.out hk2 (by simp; omega))
   have HS0 : Hid (ThrBS (ents lo) (ents lb') w w2 gm gn no d m l 0 none 0 (m + 1)) := ⟨by simp [thruL], hp2, by simpa [meanFL] using World.ownsRow_nil w2 (w.heap.size + 1) 4 1, HK2.out, Nat.le_trans HZ.out hk2.size⟩
   obtain ⟨⟨z0, z1, z2, z3⟩, _⟩ := four_facts8 HB3.out
   clear hc hk2 hp2 e1 e2 e3
   go_wp2_with fail
   go_loopw [8, 17] (fun a i wr => ∃ (A : Option Addr) (j c n : Nat), a = .slice A j c ∧ i = .int .i64 (j : Int) ∧ j ≤ lb ∧ Hid (ThrBS (ents lo) (ents lb') w wr gm gn no d m l j A c n) ∧ Hid (wr.heap[w.heap.size]? = some (.cells #[.int .i64 k, .slice B lb cb, .string ⟨s.toArray⟩, .string ⟨v.toArray⟩] 26 (0, 0)))) (fun _ i _ => lb - (intOf i).toNat)
   case atStart => exact ⟨none, 0, 0, m + 1, rfl, rfl, Nat.zero_le _, HS0.out, HB3.out⟩
   clear z0 z1 z2 z3
   case round =>
    obtain ⟨A, j, c, n, rfl, rfl, hj, HS, HBX⟩ := hrel
    have hn200 := (thruL_le aloneF _ _ _ _ HS.out.cnt).2 (by omega)
    have hjn : j ≤ 200 := by
     have h8 := (thruL_le aloneF _ _ _ _ HS.out.cnt).1
     rw [List.length_take, HL.out, Nat.min_eq_left hj] at h8
     omega
    have HKW : Hid (Keeps [] w0 wr) := HK0.out.trans HS.out.keep (fun x hx => .inr (by rw [List.mem_singleton.1 hx]; exact hgm0))
    have hgr := lt_of_heap HS.out.pass.many
    by_cases hlt : j < lb
    ·have hx : l[j]? = some (l[j]'(by have := HL.out; omega)) := List.getElem?_eq_getElem _
     obtain ⟨b9, o1, hh, rfl, hc0, hat⟩ := HI.out.at_ j _ hx
     rw [Nat.zero_add] at hc0
     have hc9 : ∀ q u, (FH.list hh)[q]? = some u → wr.cell? ⟨b9, o1 + j * 4 + q, none⟩ = some u := fun q u hu => (HKW.out.cell (lt_of_cell (hc0 q u hu)) (by simp)).trans (hc0 q u hu)
     obtain ⟨g0, g1, g2', g3⟩ := four_at hc9
     have hmem : (l[j]'(by have := HL.out; omega)) ∈ l := List.getElem_mem _
     generalize hxx : l[j]'(by have := HL.out; omega) = x at *
     obtain ⟨k', B', lb'', cb', s', v'⟩ := hh
     have HXX := Lib.hid hx
     obtain ⟨n2, hn2⟩ : ∃ n2, thruF aloneF (d + 1) n x = some n2 := by
      cases hq : thruF aloneF (d + 1) n x with
      | some n2 => exact ⟨n2, rfl⟩
      | none =>
       have h8 : thruL aloneF (d + 1) (m + 1) (l.take (j + 1)) = none := by
        rw [List.take_add_one, hx]
        show thruL _ _ _ (l.take j ++ [x]) = none
        rw [thruL_snoc, HS.out.cnt]
        exact hq
       have h7 := thruL_none aloneF (d + 1) (l.take (j + 1)) (l.drop (j + 1)) (m + 1) h8
       rw [List.take_append_drop, HTH.out] at h7
       cases h7
     have HN2 := Lib.hid hn2
     have HREC : Hid (∀ X, Keeps [] wr X → Calls Tryz.prog 192 #[.agg #[.int .i64 k', .slice B' lb'' cb', .string ⟨s'.toArray⟩, .string ⟨v'.toArray⟩], .int .i64 ((d : Int) + 1), .pointer (some ⟨gp, 0, none⟩), .pointer (some ⟨gx, 0, none⟩), .pointer (some ⟨gw, 0, none⟩)] X (ThrBQ (ents lo) (ents lb') no n2 x gm gn X)) := fun X hX => by
      have h9 := IH.out x hmem (d + 1) n n2 ⟨k', B', lb'', cb', s', v'⟩ X (by omega) hn200 hat (HKW.out.trans' hX) (HE.out.keep (HS.out.keep.trans hX (by simp))) (HS.out.pass.keep hX (by simp) (by simp)) hn2
      rw [show ((d + 1 : Nat) : Int) = (d : Int) + 1 by omega] at h9
      exact h9
     obtain ⟨e1, e2, e3, _, _, _⟩ := HE.out.keep (HS.out.keep.trans ((Keeps.refl [] wr).alloc (.cells #[.int .i64 k', .slice B' lb'' cb', .string ⟨s'.toArray⟩, .string ⟨v'.toArray⟩] 26)) (by simp))
     have hw : IntKind.i64.wrap ((d : Int) + 1) = ((d : Int) + 1) := IntWalk.i64_in _ (by omega)
     have hji : (j : Int) < (lb : Int) := by omega
     have hj0 : (0 : Int) ≤ (j : Int) := by omega
     clear hx hat hc0 hc9 hxx hmem hn2
     go_wp2_with fail
     refine (HREC.out _ ((Keeps.refl [] wr).alloc _)).mono ?_
     rintro e w6 ⟨rfl, hp6, hk6⟩
     have HP6 := Lib.hid hp6
     have HK6 : Hid (Keeps [gm] wr w6) := (((Keeps.refl [] wr).alloc (.cells #[.int .i64 k', .slice B' lb'' cb', .string ⟨s'.toArray⟩, .string ⟨v'.toArray⟩] 26)).mono (cs := [gm]) (by simp)).trans' hk6
     obtain ⟨q, hq⟩ : ∃ q, meanF (ents lo) (ents lb') x = q := ⟨_, rfl⟩
     rw [hq]
     have HQ := Lib.hid hq
     have HK7 : Hid (Keeps [gm] wr (w6.alloc (.cells #[.bool q] 4))) := HK6.out.alloc _
     have HROW : Hid ((w6.alloc (.cells #[.bool q] 4)).ownsRow (w.heap.size + 1) 4 1 (.slice A j c) j ((meanFL (ents lo) (ents lb') (l.take j)).map Value.bool)) := own_keep HS.out.row HK7.out (fun b hb hm => by have := (HS.out.row.lt b hb).1; simp at hm; omega)
     have HSZ : Hid (w.heap.size + 1 ≤ (w6.alloc (.cells #[.bool q] 4)).heap.size) := Nat.le_trans HS.out.siz HK7.out.size
     clear hp6 hk6 hq g0 g1 g2' g3 e1 e2 e3
     go_wp2_with (at_builtin; refine wpList_append_opt rfl (.tmp 21) (.tmp 27) 161 rfl (w.heap.size + 1) 4 iu _ 1 1 Tryz.underlying161 hiu hzu0 hzu1 hzu2 rfl (by decide) (.slice A j c) j ((meanFL (ents lo) (ents lb') (l.take j)).map Value.bool) rfl HROW.out (some ⟨w6.heap.size, 0, none⟩) 1 1 [.bool q] rfl rfl (src_oneb w6 q _) (by intro u hu; simp at hu; rcases hu with rfl; rfl) (by unfold maxLen; omega) (by omega) HSZ.out ?_; intro v8 w8 ho hg8 hs8; obtain ⟨A8, c8, hv8⟩ := own_slice ho; subst hv8; have HY := Lib.hid (HS.out.step hgmw hgnw HXX.out HN2.out HK6.out HP6.out ((Keeps.refl [] w6).alloc _) (by rw [HQ.out]; exact ho) hg8); have HBX8 := Lib.hid (boxes_onb HS.out.row HK7.out hg8 (by omega) (by omega) HBX.out); clear ho hg8 hs8)
     go_roundw
     case rel => exact ⟨A8, j + 1, c8, n2, rfl, by go_num, by omega, HY.out, HBX8.out⟩
     case measure => simp [intOf]; omega
    ·obtain rfl : j = lb := by omega
     have htl : l.take j = l := List.take_of_length_le (by rw [HL.out]; exact Nat.le_refl _)
     have hcn := HS.out.cnt
     rw [htl, HTH.out] at hcn
     injection hcn with hcn
     subst hcn
     have hrow := HS.out.row
     rw [htl] at hrow
     have hbl : (meanFL (ents lo) (ents lb') l).length = j := by rw [meanFL_map, List.length_map]; exact HL.out
     have HCS := Lib.hid (ismeantc_is gs S ⟨k, B, j, cb, s, v⟩ A j c (meanFL (ents lo) (ents lb') l) lo lb' wr (blk_keep (blk_keep (blk_keep hgs HK0.out (by simp)) HS.out.keep (by simpa using hgsm)) (Keeps.refl [] wr) (by simp)) (hS.grow HKW.out) HAL.out.1 HAL.out.2.1 (fun h3 => by have := HAL.out.2.2 h3; omega) HSL.out.1 HSL.out.2 (BoolsIn.of_own hrow hbl) (by omega))
     obtain ⟨e1, e2, e3, _, _, _⟩ := HE.out.keep HS.out.keep
     obtain ⟨⟨z0, z1, z2, z3⟩, _⟩ := four_facts8 HBX.out
     unfold FH.val tv at HCS
     dsimp only at HCS
     have HM : Hid (meanF (ents lo) (ents lb') (.mk k l s v) = meanK (ents lo) (ents lb') k s v (meanFL (ents lo) (ents lb') l)) := by show _ = _; simp [meanF]
     clear hrow hbl
     go_wp2_with fail
     refine HCS.out.mono ?_
     rintro e w3 ⟨rfl, hk3⟩
     have HK3 := Lib.hid hk3
     clear hk3 e1 e2 e3 z0 z1 z2 z3
     go_wp2_with fail
     go_ret
     exact ⟨by rw [HM.out]; rfl, HS.out.pass.keep HK3.out (by simp) (by simp), HS.out.keep.trans HK3.out (by simp)⟩
end Go.Proofs.YtbfebljahjmjfaaGreatDoor
/- filter: is a subject meant; walked. -/
namespace Go.Proofs.YtbfebljahjmjfaaGreatDoor
open Go.RowKit Go.Shelf
set_option linter.unusedVariables false
set_option linter.unusedSimpArgs false
set_option maxRecDepth 100000

set_option maxHeartbeats 4000000 in
theorem thrtopB_is (gs : Nat) (no : Int) (S : SubV) (lo lb' : List At7) (t : FV) (h : FH) (w : World) (hgs : w.heap[gs]? = some (.cells #[.slice S.A S.n S.c, .slice S.B S.m S.d] 110 (0, 0))) (hS : SubOk w S lo lb') (ht : FilAt w t h) (hr : rightF t = true) :
  Calls Tryz.prog 127 #[h.val, .int .i64 no, .func (.func 128) #[] #[.pointer (some ⟨gs, 0, none⟩)]] w fun e w' => e = .returned (.bool (meanF (ents lo) (ents lb') t)) ∧ Keeps [] w w' := by
 have hmf : ∀ (fn : Fn) (first cap : Array Value) (w : World), (Instr.makeFunc fn first cap).run Tryz.prog w = .ok (.func fn first cap) w := fun _ _ _ _ => rfl
 obtain ⟨nn, hnn⟩ : ∃ n, thruF aloneF 1 0 t = some n := by unfold rightF at hr; exact Option.isSome_iff_exists.1 hr
 have HNN := Lib.hid hnn
 have HT := Lib.hid ht
 have HGS := Lib.hid hgs
 have HS := Lib.hid hS
 have HGA := Lib.hid (gate8_is no)
 obtain ⟨k, B, lb, cb, s, v⟩ := h
 unfold FH.val tv at *
 dsimp only at *
 clear ht hgs hS hr hnn
 have k1 : Keeps [] w (w.alloc (.cells #[.int .i64 k, .slice B lb cb, .string ⟨s.toArray⟩, .string ⟨v.toArray⟩] 26)) := (Keeps.refl [] w).alloc _
 have b1 := heap_new8 w (.cells #[.int .i64 k, .slice B lb cb, .string ⟨s.toArray⟩, .string ⟨v.toArray⟩] 26)
 have k2 : Keeps [] (w.alloc (.cells #[.int .i64 k, .slice B lb cb, .string ⟨s.toArray⟩, .string ⟨v.toArray⟩] 26)) ((w.alloc (.cells #[.int .i64 k, .slice B lb cb, .string ⟨s.toArray⟩, .string ⟨v.toArray⟩] 26)).alloc (.cells #[.func (.func 128) #[] #[.pointer (some ⟨gs, 0, none⟩)]] 166)) := (Keeps.refl [] _).alloc _
 have b2 := heap_new8 (w.alloc (.cells #[.int .i64 k, .slice B lb cb, .string ⟨s.toArray⟩, .string ⟨v.toArray⟩] 26)) (.cells #[.func (.func 128) #[] #[.pointer (some ⟨gs, 0, none⟩)]] 166)
 have HBF := Lib.hid (blk_keep b1 k2 (by simp))
 have HBW := Lib.hid b2
 have HKB := Lib.hid (k1.trans' k2)
 have HZ : Hid (((w.alloc (.cells #[.int .i64 k, .slice B lb cb, .string ⟨s.toArray⟩, .string ⟨v.toArray⟩] 26)).alloc (.cells #[.func (.func 128) #[] #[.pointer (some ⟨gs, 0, none⟩)]] 166)).heap.size = w.heap.size + 2) := by show _ = _; simp
 simp only [World.size_alloc] at HBW
 clear k1 k2 b1 b2
 go_enter Tryz.func127, Tryz.ntmps127
 go_wp2_with fail
 generalize (w.alloc (.cells #[.int .i64 k, .slice B lb cb, .string ⟨s.toArray⟩, .string ⟨v.toArray⟩] 26)).alloc (.cells #[.func (.func 128) #[] #[.pointer (some ⟨gs, 0, none⟩)]] 166) = W1 at HBF HBW HKB HZ ⊢
 refine (HGA.out W1).mono ?_
 rintro e w1 ⟨rfl, hp1, hk1⟩
 have HP1 := Lib.hid hp1
 have HK1 := Lib.hid hk1
 clear hp1 hk1 HGA
 have k4 : Keeps [] w1 (w1.alloc (.cells #[.func (.func 134) #[] #[.pointer (some ⟨W1.heap.size + 1, 0, none⟩), .pointer (some ⟨W1.heap.size, 0, none⟩)]] 114)) := (Keeps.refl [] w1).alloc _
 have b4 := heap_new8 w1 (.cells #[.func (.func 134) #[] #[.pointer (some ⟨W1.heap.size + 1, 0, none⟩), .pointer (some ⟨W1.heap.size, 0, none⟩)]] 114)
 have k5 : Keeps [] (w1.alloc (.cells #[.func (.func 134) #[] #[.pointer (some ⟨W1.heap.size + 1, 0, none⟩), .pointer (some ⟨W1.heap.size, 0, none⟩)]] 114)) ((w1.alloc (.cells #[.func (.func 134) #[] #[.pointer (some ⟨W1.heap.size + 1, 0, none⟩), .pointer (some ⟨W1.heap.size, 0, none⟩)]] 114)).alloc (.cells #[.func (.func 192) #[] #[.pointer (some ⟨w1.heap.size, 0, none⟩), .pointer (some ⟨w1.heap.size + 1, 0, none⟩), .pointer (some ⟨w.heap.size + 1, 0, none⟩)]] 214)) := (Keeps.refl [] _).alloc _
 have b5 := heap_new8 (w1.alloc (.cells #[.func (.func 134) #[] #[.pointer (some ⟨W1.heap.size + 1, 0, none⟩), .pointer (some ⟨W1.heap.size, 0, none⟩)]] 114)) (.cells #[.func (.func 192) #[] #[.pointer (some ⟨w1.heap.size, 0, none⟩), .pointer (some ⟨w1.heap.size + 1, 0, none⟩), .pointer (some ⟨w.heap.size + 1, 0, none⟩)]] 214)
 have HBP := Lib.hid (blk_keep b4 k5 (by simp))
 have HBN := Lib.hid b5
 have HK5 := Lib.hid (k4.trans' k5)
 simp only [World.size_alloc] at HBN
 clear k4 k5 b4 b5
 have HBF5 := Lib.hid (blk_keep (blk_keep HBF.out HK1.out (by simp)) HK5.out (by simp))
 obtain ⟨⟨z0, z1, z2, z3⟩, _⟩ := four_facts8 HBF5.out
 have y0 := cell_of_blk HBN.out 0
 go_wp2_with fail
 generalize (w1.alloc (.cells #[.func (.func 134) #[] #[.pointer (some ⟨W1.heap.size + 1, 0, none⟩), .pointer (some ⟨W1.heap.size, 0, none⟩)]] 114)).alloc (.cells #[.func (.func 192) #[] #[.pointer (some ⟨w1.heap.size, 0, none⟩), .pointer (some ⟨w1.heap.size + 1, 0, none⟩), .pointer (some ⟨w.heap.size + 1, 0, none⟩)]] 214) = W5 at HBP HBN HK5 HBF5 z0 z1 z2 z3 y0 ⊢
 have hzw := HZ.out
 have hz1 := HK1.out.size
 have hgw := lt_of_heap HGS.out
 have HKA := Lib.hid (HKB.out.trans' (HK1.out.trans' HK5.out))
 have HREC := Lib.hid (thrB_is w1.heap.size (w1.heap.size + 1) (w.heap.size + 1) (W1.heap.size + 1) W1.heap.size gs no w S lo lb' (by omega) (by omega) HGS.out HS.out t 1 0 nn ⟨k, B, lb, cb, s, v⟩ W5 (by decide) (by decide) HT.out HKA.out ⟨cell_of_blk HBP.out 0, cell_of_blk HBN.out 0, cell_of_blk (blk_keep (blk_keep HBW.out HK1.out (by simp)) HK5.out (by simp)) 0, by have := lt_of_heap HP1.out.many; omega, by have := lt_of_heap HP1.out.many; omega, by omega⟩ (HP1.out.keep HK5.out (by simp) (by simp)) HNN.out)
 unfold FH.val tv at HREC
 dsimp only at HREC
 refine HREC.out.mono ?_
 rintro e w6 ⟨rfl, _, hk6⟩
 have HK6 := Lib.hid (HKA.out.trans hk6 (fun x hx => .inr (by rw [List.mem_singleton.1 hx]; omega)))
 clear hk6 z0 z1 z2 z3 y0
 go_wp2_with fail
 go_ret
 exact ⟨rfl, HK6.out⟩
set_option maxHeartbeats 4000000 in
theorem ismeant_is (S : SubV) (lo lb' : List At7) (t : FV) (h : FH) (w : World) (hS : SubOk w S lo lb') (ht : FilAt w t h) (hr : rightF t = true) :
  Calls Tryz.prog 73 #[S.val, h.val] w fun e w' => e = .returned (.bool (meanF (ents lo) (ents lb') t)) ∧ Keeps [] w w' := by
 have hmf : ∀ (fn : Fn) (first cap : Array Value) (w : World), (Instr.makeFunc fn first cap).run Tryz.prog w = .ok (.func fn first cap) w := fun _ _ _ _ => rfl
 have HT := Lib.hid ht
 have HS := Lib.hid hS
 have HR := Lib.hid hr
 obtain ⟨k, B, lb, cb, s, v⟩ := h
 obtain ⟨SA, Sn, Sc, SB, Sm, Sd⟩ := S
 unfold SubV.val FH.val tv at *
 dsimp only at *
 clear ht hS hr
 have k1 : Keeps [] w (w.alloc (.cells #[.slice SA Sn Sc, .slice SB Sm Sd] 110)) := (Keeps.refl [] w).alloc _
 have b1 := heap_new8 w (.cells #[.slice SA Sn Sc, .slice SB Sm Sd] 110)
 have k2 : Keeps [] (w.alloc (.cells #[.slice SA Sn Sc, .slice SB Sm Sd] 110)) ((w.alloc (.cells #[.slice SA Sn Sc, .slice SB Sm Sd] 110)).alloc (.cells #[.int .i64 k, .slice B lb cb, .string ⟨s.toArray⟩, .string ⟨v.toArray⟩] 26)) := (Keeps.refl [] _).alloc _
 have b2 := heap_new8 (w.alloc (.cells #[.slice SA Sn Sc, .slice SB Sm Sd] 110)) (.cells #[.int .i64 k, .slice B lb cb, .string ⟨s.toArray⟩, .string ⟨v.toArray⟩] 26)
 have HBS := Lib.hid (blk_keep b1 k2 (by simp))
 have HBF := Lib.hid b2
 have HKB := Lib.hid (k1.trans' k2)
 simp only [World.size_alloc] at HBF
 clear k1 k2 b1 b2
 obtain ⟨⟨z0, z1, z2, z3⟩, _⟩ := four_facts8 HBF.out
 go_enter Tryz.func73, Tryz.ntmps73
 go_wp2_with fail
 generalize (w.alloc (.cells #[.slice SA Sn Sc, .slice SB Sm Sd] 110)).alloc (.cells #[.int .i64 k, .slice B lb cb, .string ⟨s.toArray⟩, .string ⟨v.toArray⟩] 26) = W1 at HBS HBF HKB z0 z1 z2 z3 ⊢
 have HREC := Lib.hid (thrtopB_is w.heap.size 2 ⟨SA, Sn, Sc, SB, Sm, Sd⟩ lo lb' t ⟨k, B, lb, cb, s, v⟩ W1 HBS.out (HS.out.grow HKB.out) (FilAt.grow HKB.out t _ HT.out) HR.out)
 unfold FH.val tv at HREC
 dsimp only at HREC
 refine HREC.out.mono ?_
 rintro e w6 ⟨rfl, hk6⟩
 have HK6 := Lib.hid (HKB.out.trans' hk6)
 clear hk6 z0 z1 z2 z3
 go_wp2_with fail
 go_ret
 exact ⟨rfl, HK6.out⟩
end Go.Proofs.YtbfebljahjmjfaaGreatDoor
