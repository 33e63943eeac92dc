import Derived.Test.YtbfebljahjmjfaaGreatDoorQ16
import Derived.BigQuiet
/- filter: the text of a filter with the texts of those in its Of; walked. -/
namespace Go.Proofs.YtbfebljahjmjfaaGreatDoor
open Go.RowKit Go.Shelf
set_option linter.unusedVariables false
set_option linter.unusedSimpArgs false
set_option maxRecDepth 100000

/-- What a text has ahead of those in Of. -/
def sgnT (k : Int) : Txt := if k = 1 then [38] else if k = 2 then [124] else [33]
def textK (k : Int) (s v : Txt) (of : List Txt) : Txt :=
 [40] ++ (if k = 4 then s ++ [61] ++ valT v else if k = 5 ∨ k = 6 then s ++ [61] ++ valT v ++ [42] else sgnT k ++ of.flatten) ++ [41]
/-- The signs in memory. -/
def SgnAt (w : World) : Prop := w.cell? ⟨0, 1, none⟩ = some (.string ⟨#[38]⟩) ∧ w.cell? ⟨0, 2, none⟩ = some (.string ⟨#[124]⟩) ∧ w.cell? ⟨0, 3, none⟩ = some (.string ⟨#[33]⟩)
theorem SgnAt.keep {w w' : World} (h : SgnAt w) (hk : Keeps [] w w') : SgnAt w' :=
 ⟨(hk.cell (lt_of_cell h.1) (by simp)).trans h.1, (hk.cell (lt_of_cell h.2.1) (by simp)).trans h.2.1, (hk.cell (lt_of_cell h.2.2) (by simp)).trans h.2.2⟩
theorem strs_lit8 (w : World) (ss : List Txt) (n : Nat) (cs : Array Value) (hc : cs = (ss.map tv).toArray) (hn : ss.length = n) (hl : ∀ s ∈ ss, s.length ≤ 9223372036854775807) : ∀ bs X, (∀ x ∈ bs, x < w.heap.size) → Keeps bs (w.alloc (.cells cs 9)) X → StrsIn X (some ⟨w.heap.size, 0, none⟩) n ss := by
 intro bs X hbs hX
 have h1 := blk_keep (heap_new8 w (.cells cs 9)) hX (fun hm => by have := hbs _ hm; omega)
 refine ⟨hn, hl, fun _ => ⟨_, 0, rfl, fun i s hi => ?_⟩⟩
 rw [Nat.zero_add]
 have h2 := cell_of_blk h1 i
 rw [hc] at h2
 simpa [hi] using h2
theorem TxsIn.grow {w w' : World} {C : Option Addr} {m : Nat} {ys : List Txt} (hk : Keeps [] w w') (h : TxsIn w C m ys) : TxsIn w' C m ys := by
 obtain ⟨h1, h2⟩ := h
 refine ⟨h1, fun hp => ?_⟩
 obtain ⟨b, o, e, hc⟩ := h2 hp
 refine ⟨b, o, e, fun i y hi => ?_⟩
 obtain ⟨A, c, h3, h4⟩ := hc i y hi
 exact ⟨A, c, (hk.cell (lt_of_cell h3) (by simp)).trans h3, h4.grow hk⟩
/-- How a text comes out: in new memory. -/
def TxtQ8 (res : Txt) (w : World) (e : Ending) (w' : World) : Prop :=
 ∃ A c, e = .returned (.slice A res.length c) ∧ w'.ownsRow w.heap.size 5 1 (.slice A res.length c) res.length (res.map bv) ∧ Keeps [] w w'
theorem GrQ.start {base : Nat} {res : Txt} {V w' : World} {e : Ending} (h : GrQ base none 0 0 res V e w') : ∃ A8 m8 c8, e = .returned (.slice A8 m8 c8) ∧ GrS base none 0 0 V w' A8 m8 c8 res := by
 obtain ⟨A8, c8, rfl, h1, h2, h3⟩ := h
 exact ⟨A8, _, c8, rfl, rfl, h1, h2, h3⟩
theorem GrS.ge {base : Nat} {w wr : World} {A' : Option Addr} {m' c' : Nat} {res : Txt} (H : GrS base none 0 0 w wr A' m' c' res) : ∀ x ∈ (Value.slice A' m' c').ownBlock.toList, w.heap.size ≤ x := fun x hx => by
 rcases H.blk x (Option.mem_toList.1 hx) with h | h
 ·cases h
 ·exact h
theorem GrS.len2 {base : Nat} {w wr : World} {A : Option Addr} {n c : Nat} {A' : Option Addr} {m' c' : Nat} {a b : UInt8} (H : GrS base A n c w wr A' m' c' ([a] ++ [[b]].flatten)) : m' = 2 := by rw [← H.len]; rfl
theorem GrS.len_le {base : Nat} {w wr : World} {A : Option Addr} {n c : Nat} {A' : Option Addr} {m' c' : Nat} {a b : UInt8} {ys : List Txt} (H : GrS base A n c w wr A' m' c' ([a] ++ [[b]].flatten ++ ys.flatten)) : ([a] ++ [[b]].flatten ++ ys.flatten).length = 2 + ys.flatten.length := by
 rw [List.length_append]
 rfl
set_option maxHeartbeats 16000000 in
theorem textwith_is (h : FH) (C : Option Addr) (m d : Nat) (ys : List Txt) (w : World) (hs : h.s.length ≤ 1000000) (hv : h.v.length ≤ 1000000) (hk1 : 1 ≤ h.k) (hk6 : h.k ≤ 6) (hne : 4 ≤ h.k → 0 < h.s.length) (hT : TxsIn w C m ys) (hm : m ≤ 1000000) (hb : ys.flatten.length ≤ 900000000) (hG : SgnAt w) :
  Calls Tryz.prog 131 #[h.val, .slice C m d] w (TxtQ8 (textK h.k h.s h.v ys) w) := by
 have HVT := Lib.hid (fun X => valuetext_is h.v X (by omega))
 have hvl := valT_len h.v
 have HT := Lib.hid hT
 have HG := Lib.hid hG
 have HNE := Lib.hid hne
 clear hne
 obtain ⟨k, B, lb, cb, s, v⟩ := h
 unfold FH.val tv at *
 dsimp only at *
 have HTK := Lib.hid (show textK k s v ys = [40] ++ (if k = 4 then s ++ [61] ++ valT v else if k = 5 ∨ k = 6 then s ++ [61] ++ valT v ++ [42] else sgnT k ++ ys.flatten) ++ [41] from rfl)
 generalize textK k s v ys = R at HTK ⊢
 generalize valT v = z at HVT hvl HTK
 have HB0 := Lib.hid (heap_new8 w (.cells #[.int .i64 k, .slice B lb cb, .string ⟨s.toArray⟩, .string ⟨v.toArray⟩] 26))
 have HK0 : Hid (Keeps [] w (w.alloc (.cells #[.int .i64 k, .slice B lb cb, .string ⟨s.toArray⟩, .string ⟨v.toArray⟩] 26))) := (Keeps.refl [] w).alloc _
 obtain ⟨W0, hW0⟩ : ∃ W0, w.alloc (.cells #[.int .i64 k, .slice B lb cb, .string ⟨s.toArray⟩, .string ⟨v.toArray⟩] 26) = W0 := ⟨_, rfl⟩
 have HW0 := Lib.hid hW0
 rw [hW0] at HB0 HK0
 have cv := fun C n c => Lib.run_convert_bytes_const W0 37 5 C n c Tryz.underlying37 Tryz.underlying5
 have HK1 : Hid (Keeps [] W0 (W0.alloc (.cells #[.int .u8 40] 5 (1, 2)))) := (Keeps.refl [] W0).alloc _
 have HSZ0 : Hid (w.heap.size ≤ W0.heap.size) := HK0.out.size
 have HB1 := Lib.hid (blk_keep HB0.out HK1.out (by simp))
 have hl0 : (W0.alloc (.cells #[.int .u8 40] 5 (1, 2))).cell? ⟨W0.heap.size, 0, none⟩ = some (.int .u8 40) := by
  have h9 := heap_new8 W0 (.cells #[.int .u8 40] 5 (1, 2))
  unfold World.cell?
  rw [h9]
  rfl
 have HL0 := Lib.hid hl0
 have HCL : Hid (∀ X, Keeps [] (W0.alloc (.cells #[.int .u8 40] 5 (1, 2))) X → ∀ j v, (([40] : Txt).map bv)[j]? = some v → X.cell? ⟨W0.heap.size, j, none⟩ = some v) := fun X hX j v hv => by
  cases j with
  | zero =>
   simp at hv
   subst hv
   exact (hX.cell (lt_of_cell HL0.out) (by simp)).trans HL0.out
  | succ j => simp at hv
 clear hl0
 have HFIN : Hid (∀ (V wr : World) (A' : Option Addr) (m' c' : Nat) (res : Txt), Keeps [] w V → GrS w.heap.size none 0 0 V wr A' m' c' res → res.length ≤ 999000000 → Calls Tryz.prog 200 #[.slice A' m' c', .slice (some ⟨wr.heap.size, 0, none⟩) 1 1] (wr.alloc (.cells #[.string ⟨#[41]⟩] 9)) fun e w' => TxtQ8 (res ++ [41]) w e w') := fun V wr A' m' c' res hkV hg hl => by
  have hg2 := hg.on ((Keeps.refl [] wr).alloc (.cells #[.string ⟨#[41]⟩] 9))
  refine (growns8_is w.heap.size A' m' c' res (some ⟨wr.heap.size, 0, none⟩) 1 1 [[41]] _ hg2.row hg2.len (by omega) (fun X hX => strs_lit8 wr [[41]] 1 _ rfl rfl (by simp) _ X (fun x hx => (hg.row.lt x (Option.mem_toList.1 hx)).2) hX) (by simp; omega) (Nat.le_trans hkV.size (Nat.le_trans hg.keep.size (by simp)))).mono ?_
  intro e w' hq
  obtain ⟨A8, m8, c8, rfl, hy⟩ := hg2.then (Keeps.refl _ _) hq
  have hy' : GrS w.heap.size none 0 0 V w' A8 m8 c8 (res ++ [41]) := by simpa using hy
  obtain ⟨h1, h2, h3, h4⟩ := hy'
  subst h1
  exact ⟨A8, c8, rfl, h2, hkV.trans' h3⟩
 obtain ⟨⟨f0, f1, f2, f3⟩, _⟩ := four_facts8 HB1.out
 clear hT hG
 by_cases h4 : k = 4
 ·subst h4
  have HR : Hid (R = [40] ++ [s, [61], z].flatten ++ [41]) := by show _ = _; rw [HTK.out]; simp
  clear HTK
  go_enter Tryz.func131, Tryz.ntmps131
  go_wp2_with fail
  try rw [HW0.out]
  generalize W0.alloc (.cells #[.int .u8 40] 5 (1, 2)) = W1 at HK1 HL0 HCL HB1 f0 f1 f2 f3 ⊢
  refine wp_region_held_drew (S := (fun X => Keeps [] W0 X)) (by kernel_rfl) (HK1.out.drew) ?_
  intro HS
  refine wpAnyH_take (i := 0) (v := .slice (some ⟨W0.heap.size, 0, none⟩) 1 1) rfl (by kernel_rfl) (by kernel_rfl) (by kernel_rfl) (fun _ _ _ h => h) (Or.inl ⟨by kernel_rfl, ?_⟩) HS ?_
  ·intro w5 hw5
   go_simp
  simp only [Act.put, aL]
  refine wpAnyH_take (i := 1) (v := .pointer (some ⟨w.heap.size, 2, none⟩)) rfl (by kernel_rfl) (by kernel_rfl) (by kernel_rfl) (fun _ _ _ h => h) (Or.inl ⟨by kernel_rfl, ?_⟩) HS ?_
  ·intro w5 hw5
   go_simp
  simp only [Act.put, aL]
  refine wpAnyH_take (i := 2) (v := .string ⟨s.toArray⟩) rfl (by kernel_rfl) (by kernel_rfl) (by kernel_rfl) (fun _ _ _ h => h) (Or.inl ⟨by kernel_rfl, ?_⟩) HS ?_
  ·intro w5 hw5
   obtain ⟨⟨d0, d1, d2, d3⟩, _⟩ := four_facts8 (blk_keep HB0.out hw5 (by simp))
   go_simp
  simp only [Act.put, aL]
  refine wpAnyH_take (i := 3) (v := .pointer (some ⟨w.heap.size, 3, none⟩)) rfl (by kernel_rfl) (by kernel_rfl) (by kernel_rfl) (fun _ _ _ h => h) (Or.inl ⟨by kernel_rfl, ?_⟩) HS ?_
  ·intro w5 hw5
   go_simp
  simp only [Act.put, aL]
  refine wpAnyH_take (i := 4) (v := .string ⟨v.toArray⟩) rfl (by kernel_rfl) (by kernel_rfl) (by kernel_rfl) (fun _ _ _ h => h) (Or.inl ⟨by kernel_rfl, ?_⟩) HS ?_
  ·intro w5 hw5
   obtain ⟨⟨d0, d1, d2, d3⟩, _⟩ := four_facts8 (blk_keep HB0.out hw5 (by simp))
   go_simp
  simp only [Act.put, aL]
  refine wpAnyH_ready (rs := [5]) (by kernel_rfl) (by simp) ?_
  refine AllReadyH.cons rfl (fun K hK => ?_) AllReadyH.nil
  go_simp
  refine (HVT.out _).mono ?_
  rintro e w3 ⟨rfl, hk3⟩
  have HK3 := Lib.hid (((Keeps.refl [] W1).drew).trans' hk3)
  clear hk3
  refine hK.out _ _ (HK1.out.trans' HK3.out) (fun HS => ?_)
  clear hK K
  try simp only [Act.put, aL]
  refine wpAnyH_ready (rs := [6]) (by kernel_rfl) (by simp) ?_
  refine AllReadyH.cons rfl (fun K hK => ?_) AllReadyH.nil
  go_simp
  refine hK.out _ _ ((HK1.out.trans' HK3.out).trans' (by first | exact (Keeps.refl [] w3).alloc _ | exact ((Keeps.refl [] w3).alloc _).drew)) (fun HS => ?_)
  clear hK K
  try simp only [Act.put, aL]
  refine wpAnyH_ready (rs := [7]) (by kernel_rfl) (by simp) ?_
  refine AllReadyH.cons rfl (fun K hK => ?_) AllReadyH.nil
  go_simp
  obtain ⟨V, hV⟩ : ∃ V, w3.alloc (.cells #[.string ⟨s.toArray⟩, .string ⟨#[61]⟩, .string ⟨z.toArray⟩] 9) = V := ⟨_, rfl⟩
  have HKV : Hid (Keeps [] w3 V) := by rw [← hV]; exact (Keeps.refl [] w3).alloc _
  have HGB := Lib.hid (grownsm_is w.heap.size W0.heap.size [40] 1 (some ⟨w3.heap.size, 0, none⟩) 3 3 s [[61], z] V (HCL.out V (HK3.out.trans' HKV.out)) rfl (by omega) (HNE.out (by decide)) (fun X hX => strs_lit8 w3 [s, [61], z] 3 _ rfl rfl (by intro x hx; simp at hx; rcases hx with rfl | rfl | rfl <;> first | omega | decide | simp) [] X (by simp) (by
   rw [← hV] at hX
   exact hX)) (by simp; omega) (Nat.le_trans HSZ0.out (Nat.le_trans HK1.out.size (Nat.le_trans HK3.out.size HKV.out.size))))
  have HKW : Hid (Keeps [] w V) := HK0.out.trans' (HK1.out.trans' (HK3.out.trans' HKV.out))
  rw [hV]
  refine HGB.out.mono ?_
  intro e w6 hq6
  obtain ⟨A8, m8, c8, rfl, hy⟩ := hq6.start
  have HY := Lib.hid hy
  have hyl := hy.len
  clear hq6 hy
  refine hK.out _ _ ((HK1.out.trans' (HK3.out.trans' HKV.out)).trans' HY.out.keep) (fun HS => ?_)
  clear hK K
  try simp only [Act.put, aL]
  refine wpAnyH_take (i := 8) (v := .slice A8 m8 c8) rfl (by kernel_rfl) (by kernel_rfl) (by kernel_rfl) (fun _ _ _ h => h) (Or.inl ⟨by kernel_rfl, ?_⟩) HS ?_
  ·intro w5 hw5
   go_simp
  simp only [Act.put, aL]
  refine wpAnyH_done (by kernel_rfl) ?_ _
  have HF := Lib.hid (HFIN.out V w6 A8 m8 c8 _ HKW.out HY.out (by rw [HY.out.len]; simp at hyl; omega))
  rw [← HR.out] at HF
  clear f0 f1 f2 f3
  go_wp2_with fail
  refine HF.out.mono ?_
  rintro e w9 ⟨A9, c9, rfl, hr9, hk9⟩
  have HX : Hid (TxtQ8 R w (.returned (.slice A9 R.length c9)) w9) := ⟨A9, c9, rfl, hr9, hk9⟩
  clear hr9 hk9
  generalize R.length = rl at HX ⊢
  go_wp2_with fail
  go_ret
  exact HX.out
 by_cases h56 : k = 5 ∨ k = 6
 ·rcases h56 with rfl | rfl
  ·have HR : Hid (R = [40] ++ [s, [61], z, [42]].flatten ++ [41]) := by show _ = _; rw [HTK.out]; simp
   clear HTK
   go_enter Tryz.func131, Tryz.ntmps131
   go_wp2_with fail
   try rw [HW0.out]
   generalize W0.alloc (.cells #[.int .u8 40] 5 (1, 2)) = W1 at HK1 HL0 HCL HB1 f0 f1 f2 f3 ⊢
   refine wp_region_held_drew (S := (fun X => Keeps [] W0 X)) (by kernel_rfl) (HK1.out.drew) ?_
   intro HS
   refine wpAnyH_take (i := 0) (v := .slice (some ⟨W0.heap.size, 0, none⟩) 1 1) rfl (by kernel_rfl) (by kernel_rfl) (by kernel_rfl) (fun _ _ _ h => h) (Or.inl ⟨by kernel_rfl, ?_⟩) HS ?_
   ·intro w5 hw5
    go_simp
   simp only [Act.put, aL]
   refine wpAnyH_take (i := 1) (v := .pointer (some ⟨w.heap.size, 2, none⟩)) rfl (by kernel_rfl) (by kernel_rfl) (by kernel_rfl) (fun _ _ _ h => h) (Or.inl ⟨by kernel_rfl, ?_⟩) HS ?_
   ·intro w5 hw5
    go_simp
   simp only [Act.put, aL]
   refine wpAnyH_take (i := 2) (v := .string ⟨s.toArray⟩) rfl (by kernel_rfl) (by kernel_rfl) (by kernel_rfl) (fun _ _ _ h => h) (Or.inl ⟨by kernel_rfl, ?_⟩) HS ?_
   ·intro w5 hw5
    obtain ⟨⟨d0, d1, d2, d3⟩, _⟩ := four_facts8 (blk_keep HB0.out hw5 (by simp))
    go_simp
   simp only [Act.put, aL]
   refine wpAnyH_take (i := 3) (v := .pointer (some ⟨w.heap.size, 3, none⟩)) rfl (by kernel_rfl) (by kernel_rfl) (by kernel_rfl) (fun _ _ _ h => h) (Or.inl ⟨by kernel_rfl, ?_⟩) HS ?_
   ·intro w5 hw5
    go_simp
   simp only [Act.put, aL]
   refine wpAnyH_take (i := 4) (v := .string ⟨v.toArray⟩) rfl (by kernel_rfl) (by kernel_rfl) (by kernel_rfl) (fun _ _ _ h => h) (Or.inl ⟨by kernel_rfl, ?_⟩) HS ?_
   ·intro w5 hw5
    obtain ⟨⟨d0, d1, d2, d3⟩, _⟩ := four_facts8 (blk_keep HB0.out hw5 (by simp))
    go_simp
   simp only [Act.put, aL]
   refine wpAnyH_ready (rs := [5]) (by kernel_rfl) (by simp) ?_
   refine AllReadyH.cons rfl (fun K hK => ?_) AllReadyH.nil
   go_simp
   refine (HVT.out _).mono ?_
   rintro e w3 ⟨rfl, hk3⟩
   have HK3 := Lib.hid (((Keeps.refl [] W1).drew).trans' hk3)
   clear hk3
   refine hK.out _ _ (HK1.out.trans' HK3.out) (fun HS => ?_)
   clear hK K
   try simp only [Act.put, aL]
   refine wpAnyH_ready (rs := [6]) (by kernel_rfl) (by simp) ?_
   refine AllReadyH.cons rfl (fun K hK => ?_) AllReadyH.nil
   go_simp
   refine hK.out _ _ ((HK1.out.trans' HK3.out).trans' (by first | exact (Keeps.refl [] w3).alloc _ | exact ((Keeps.refl [] w3).alloc _).drew)) (fun HS => ?_)
   clear hK K
   try simp only [Act.put, aL]
   refine wpAnyH_ready (rs := [7]) (by kernel_rfl) (by simp) ?_
   refine AllReadyH.cons rfl (fun K hK => ?_) AllReadyH.nil
   go_simp
   obtain ⟨V, hV⟩ : ∃ V, w3.alloc (.cells #[.string ⟨s.toArray⟩, .string ⟨#[61]⟩, .string ⟨z.toArray⟩, .string ⟨#[42]⟩] 9) = V := ⟨_, rfl⟩
   have HKV : Hid (Keeps [] w3 V) := by rw [← hV]; exact (Keeps.refl [] w3).alloc _
   have HGB := Lib.hid (grownsm_is w.heap.size W0.heap.size [40] 1 (some ⟨w3.heap.size, 0, none⟩) 4 4 s [[61], z, [42]] V (HCL.out V (HK3.out.trans' HKV.out)) rfl (by omega) (HNE.out (by decide)) (fun X hX => strs_lit8 w3 [s, [61], z, [42]] 4 _ rfl rfl (by intro x hx; simp at hx; rcases hx with rfl | rfl | rfl | rfl <;> first | omega | decide | simp) [] X (by simp) (by
    rw [← hV] at hX
    exact hX)) (by simp; omega) (Nat.le_trans HSZ0.out (Nat.le_trans HK1.out.size (Nat.le_trans HK3.out.size HKV.out.size))))
   have HKW : Hid (Keeps [] w V) := HK0.out.trans' (HK1.out.trans' (HK3.out.trans' HKV.out))
   rw [hV]
   refine HGB.out.mono ?_
   intro e w6 hq6
   obtain ⟨A8, m8, c8, rfl, hy⟩ := hq6.start
   have HY := Lib.hid hy
   have hyl := hy.len
   clear hq6 hy
   refine hK.out _ _ ((HK1.out.trans' (HK3.out.trans' HKV.out)).trans' HY.out.keep) (fun HS => ?_)
   clear hK K
   try simp only [Act.put, aL]
   refine wpAnyH_take (i := 8) (v := .slice A8 m8 c8) rfl (by kernel_rfl) (by kernel_rfl) (by kernel_rfl) (fun _ _ _ h => h) (Or.inl ⟨by kernel_rfl, ?_⟩) HS ?_
   ·intro w5 hw5
    go_simp
   simp only [Act.put, aL]
   refine wpAnyH_done (by kernel_rfl) ?_ _
   have HF := Lib.hid (HFIN.out V w6 A8 m8 c8 _ HKW.out HY.out (by rw [HY.out.len]; simp at hyl; omega))
   rw [← HR.out] at HF
   clear f0 f1 f2 f3
   go_wp2_with fail
   refine HF.out.mono ?_
   rintro e w9 ⟨A9, c9, rfl, hr9, hk9⟩
   have HX : Hid (TxtQ8 R w (.returned (.slice A9 R.length c9)) w9) := ⟨A9, c9, rfl, hr9, hk9⟩
   clear hr9 hk9
   generalize R.length = rl at HX ⊢
   go_wp2_with fail
   go_ret
   exact HX.out
  ·have HR : Hid (R = [40] ++ [s, [61], z, [42]].flatten ++ [41]) := by show _ = _; rw [HTK.out]; simp
   clear HTK
   go_enter Tryz.func131, Tryz.ntmps131
   go_wp2_with fail
   try rw [HW0.out]
   generalize W0.alloc (.cells #[.int .u8 40] 5 (1, 2)) = W1 at HK1 HL0 HCL HB1 f0 f1 f2 f3 ⊢
   refine wp_region_held_drew (S := (fun X => Keeps [] W0 X)) (by kernel_rfl) (HK1.out.drew) ?_
   intro HS
   refine wpAnyH_take (i := 0) (v := .slice (some ⟨W0.heap.size, 0, none⟩) 1 1) rfl (by kernel_rfl) (by kernel_rfl) (by kernel_rfl) (fun _ _ _ h => h) (Or.inl ⟨by kernel_rfl, ?_⟩) HS ?_
   ·intro w5 hw5
    go_simp
   simp only [Act.put, aL]
   refine wpAnyH_take (i := 1) (v := .pointer (some ⟨w.heap.size, 2, none⟩)) rfl (by kernel_rfl) (by kernel_rfl) (by kernel_rfl) (fun _ _ _ h => h) (Or.inl ⟨by kernel_rfl, ?_⟩) HS ?_
   ·intro w5 hw5
    go_simp
   simp only [Act.put, aL]
   refine wpAnyH_take (i := 2) (v := .string ⟨s.toArray⟩) rfl (by kernel_rfl) (by kernel_rfl) (by kernel_rfl) (fun _ _ _ h => h) (Or.inl ⟨by kernel_rfl, ?_⟩) HS ?_
   ·intro w5 hw5
    obtain ⟨⟨d0, d1, d2, d3⟩, _⟩ := four_facts8 (blk_keep HB0.out hw5 (by simp))
    go_simp
   simp only [Act.put, aL]
   refine wpAnyH_take (i := 3) (v := .pointer (some ⟨w.heap.size, 3, none⟩)) rfl (by kernel_rfl) (by kernel_rfl) (by kernel_rfl) (fun _ _ _ h => h) (Or.inl ⟨by kernel_rfl, ?_⟩) HS ?_
   ·intro w5 hw5
    go_simp
   simp only [Act.put, aL]
   refine wpAnyH_take (i := 4) (v := .string ⟨v.toArray⟩) rfl (by kernel_rfl) (by kernel_rfl) (by kernel_rfl) (fun _ _ _ h => h) (Or.inl ⟨by kernel_rfl, ?_⟩) HS ?_
   ·intro w5 hw5
    obtain ⟨⟨d0, d1, d2, d3⟩, _⟩ := four_facts8 (blk_keep HB0.out hw5 (by simp))
    go_simp
   simp only [Act.put, aL]
   refine wpAnyH_ready (rs := [5]) (by kernel_rfl) (by simp) ?_
   refine AllReadyH.cons rfl (fun K hK => ?_) AllReadyH.nil
   go_simp
   refine (HVT.out _).mono ?_
   rintro e w3 ⟨rfl, hk3⟩
   have HK3 := Lib.hid (((Keeps.refl [] W1).drew).trans' hk3)
   clear hk3
   refine hK.out _ _ (HK1.out.trans' HK3.out) (fun HS => ?_)
   clear hK K
   try simp only [Act.put, aL]
   refine wpAnyH_ready (rs := [6]) (by kernel_rfl) (by simp) ?_
   refine AllReadyH.cons rfl (fun K hK => ?_) AllReadyH.nil
   go_simp
   refine hK.out _ _ ((HK1.out.trans' HK3.out).trans' (by first | exact (Keeps.refl [] w3).alloc _ | exact ((Keeps.refl [] w3).alloc _).drew)) (fun HS => ?_)
   clear hK K
   try simp only [Act.put, aL]
   refine wpAnyH_ready (rs := [7]) (by kernel_rfl) (by simp) ?_
   refine AllReadyH.cons rfl (fun K hK => ?_) AllReadyH.nil
   go_simp
   obtain ⟨V, hV⟩ : ∃ V, w3.alloc (.cells #[.string ⟨s.toArray⟩, .string ⟨#[61]⟩, .string ⟨z.toArray⟩, .string ⟨#[42]⟩] 9) = V := ⟨_, rfl⟩
   have HKV : Hid (Keeps [] w3 V) := by rw [← hV]; exact (Keeps.refl [] w3).alloc _
   have HGB := Lib.hid (grownsm_is w.heap.size W0.heap.size [40] 1 (some ⟨w3.heap.size, 0, none⟩) 4 4 s [[61], z, [42]] V (HCL.out V (HK3.out.trans' HKV.out)) rfl (by omega) (HNE.out (by decide)) (fun X hX => strs_lit8 w3 [s, [61], z, [42]] 4 _ rfl rfl (by intro x hx; simp at hx; rcases hx with rfl | rfl | rfl | rfl <;> first | omega | decide | simp) [] X (by simp) (by
    rw [← hV] at hX
    exact hX)) (by simp; omega) (Nat.le_trans HSZ0.out (Nat.le_trans HK1.out.size (Nat.le_trans HK3.out.size HKV.out.size))))
   have HKW : Hid (Keeps [] w V) := HK0.out.trans' (HK1.out.trans' (HK3.out.trans' HKV.out))
   rw [hV]
   refine HGB.out.mono ?_
   intro e w6 hq6
   obtain ⟨A8, m8, c8, rfl, hy⟩ := hq6.start
   have HY := Lib.hid hy
   have hyl := hy.len
   clear hq6 hy
   refine hK.out _ _ ((HK1.out.trans' (HK3.out.trans' HKV.out)).trans' HY.out.keep) (fun HS => ?_)
   clear hK K
   try simp only [Act.put, aL]
   refine wpAnyH_take (i := 8) (v := .slice A8 m8 c8) rfl (by kernel_rfl) (by kernel_rfl) (by kernel_rfl) (fun _ _ _ h => h) (Or.inl ⟨by kernel_rfl, ?_⟩) HS ?_
   ·intro w5 hw5
    go_simp
   simp only [Act.put, aL]
   refine wpAnyH_done (by kernel_rfl) ?_ _
   have HF := Lib.hid (HFIN.out V w6 A8 m8 c8 _ HKW.out HY.out (by rw [HY.out.len]; simp at hyl; omega))
   rw [← HR.out] at HF
   clear f0 f1 f2 f3
   go_wp2_with fail
   refine HF.out.mono ?_
   rintro e w9 ⟨A9, c9, rfl, hr9, hk9⟩
   have HX : Hid (TxtQ8 R w (.returned (.slice A9 R.length c9)) w9) := ⟨A9, c9, rfl, hr9, hk9⟩
   clear hr9 hk9
   generalize R.length = rl at HX ⊢
   go_wp2_with fail
   go_ret
   exact HX.out
 have hk3 : k = 1 ∨ k = 2 ∨ k = 3 := by omega
 rcases hk3 with rfl | rfl | rfl
 ·have HR : Hid (R = [40] ++ [38] ++ ys.flatten ++ [41]) := by show _ = _; rw [HTK.out]; simp [sgnT]
  obtain ⟨g1, g2, g3⟩ := (HG.out.keep HK0.out).keep HK1.out
  clear HTK
  go_enter Tryz.func131, Tryz.ntmps131
  go_wp2_with fail
  try rw [HW0.out]
  have HZ1 : Hid ((W0.alloc (.cells #[.int .u8 40] 5 (1, 2))).heap.size = W0.heap.size + 1) := by show _ = _; simp
  generalize W0.alloc (.cells #[.int .u8 40] 5 (1, 2)) = W1 at HK1 HL0 HCL HB1 HZ1 f0 f1 f2 f3 g1 g2 g3 ⊢
  obtain ⟨V, hV⟩ : ∃ V, W1.alloc (.cells #[.string ⟨#[38]⟩] 9) = V := ⟨_, rfl⟩
  have HKV : Hid (Keeps [] W1 V) := by rw [← hV]; exact (Keeps.refl [] W1).alloc _
  have HGB := Lib.hid (grownsm_is w.heap.size W0.heap.size [40] 1 (some ⟨W1.heap.size, 0, none⟩) 1 1 [38] [] V (HCL.out V HKV.out) rfl (by omega) (by decide) (fun X hX => strs_lit8 W1 [[38]] 1 _ rfl rfl (by simp) [] X (by simp) (by
   rw [← hV] at hX
   exact hX)) (by simp) (Nat.le_trans HSZ0.out (Nat.le_trans HK1.out.size HKV.out.size)))
  have HKW : Hid (Keeps [] w V) := HK0.out.trans' (HK1.out.trans' HKV.out)
  rw [HZ1.out] at HGB
  rw [hV]
  refine HGB.out.mono ?_
  intro e w6 hq6
  obtain ⟨A8, m8, c8, rfl, hy⟩ := hq6.start
  have HY := Lib.hid hy
  have hge := hy.ge
  have hln := hy.len
  have hl2 := hy.len2
  have hgz := Nat.le_trans HKW.out.size hy.keep.size
  have HTX : Hid (∀ X, Keeps (Value.slice A8 m8 c8).ownBlock.toList w6 X → TxsIn X C m ys) := fun X hX => TxsIn.grow ((HKW.out.trans' hy.keep).trans hX (fun x hx => .inr (Nat.le_trans HKW.out.size (hge x hx)))) HT.out
  have HBB := Lib.hid (grownb8_is w.heap.size A8 m8 c8 ([40] ++ [[38]].flatten) C m d ys w6 hy.row hln hm HTX.out (by rw [hln]; omega) hgz)
  clear hq6 hy hge hln hl2 hgz f0 f1 f2 f3 g1 g2 g3
  go_wp2_with fail
  refine HBB.out.mono ?_
  intro e w7 hq7
  obtain ⟨A7, m7, c7, rfl, hy⟩ := HY.out.then (Keeps.refl _ _) hq7
  have HF := Lib.hid (HFIN.out V w7 A7 m7 c7 _ HKW.out hy (by rw [hy.len_le]; omega))
  rw [show (([40] ++ [[38]].flatten ++ ys.flatten ++ [41] : Txt)) = R by rw [HR.out]; simp] at HF
  clear hq7 hy
  go_wp2_with fail
  refine HF.out.mono ?_
  rintro e w9 ⟨A9, c9, rfl, hr9, hk9⟩
  have HX : Hid (TxtQ8 R w (.returned (.slice A9 R.length c9)) w9) := ⟨A9, c9, rfl, hr9, hk9⟩
  clear hr9 hk9
  generalize R.length = rl at HX ⊢
  go_wp2_with fail
  go_ret
  exact HX.out
 ·have HR : Hid (R = [40] ++ [124] ++ ys.flatten ++ [41]) := by show _ = _; rw [HTK.out]; simp [sgnT]
  obtain ⟨g1, g2, g3⟩ := (HG.out.keep HK0.out).keep HK1.out
  clear HTK
  go_enter Tryz.func131, Tryz.ntmps131
  go_wp2_with fail
  try rw [HW0.out]
  have HZ1 : Hid ((W0.alloc (.cells #[.int .u8 40] 5 (1, 2))).heap.size = W0.heap.size + 1) := by show _ = _; simp
  generalize W0.alloc (.cells #[.int .u8 40] 5 (1, 2)) = W1 at HK1 HL0 HCL HB1 HZ1 f0 f1 f2 f3 g1 g2 g3 ⊢
  obtain ⟨V, hV⟩ : ∃ V, W1.alloc (.cells #[.string ⟨#[124]⟩] 9) = V := ⟨_, rfl⟩
  have HKV : Hid (Keeps [] W1 V) := by rw [← hV]; exact (Keeps.refl [] W1).alloc _
  have HGB := Lib.hid (grownsm_is w.heap.size W0.heap.size [40] 1 (some ⟨W1.heap.size, 0, none⟩) 1 1 [124] [] V (HCL.out V HKV.out) rfl (by omega) (by decide) (fun X hX => strs_lit8 W1 [[124]] 1 _ rfl rfl (by simp) [] X (by simp) (by
   rw [← hV] at hX
   exact hX)) (by simp) (Nat.le_trans HSZ0.out (Nat.le_trans HK1.out.size HKV.out.size)))
  have HKW : Hid (Keeps [] w V) := HK0.out.trans' (HK1.out.trans' HKV.out)
  rw [HZ1.out] at HGB
  rw [hV]
  refine HGB.out.mono ?_
  intro e w6 hq6
  obtain ⟨A8, m8, c8, rfl, hy⟩ := hq6.start
  have HY := Lib.hid hy
  have hge := hy.ge
  have hln := hy.len
  have hl2 := hy.len2
  have hgz := Nat.le_trans HKW.out.size hy.keep.size
  have HTX : Hid (∀ X, Keeps (Value.slice A8 m8 c8).ownBlock.toList w6 X → TxsIn X C m ys) := fun X hX => TxsIn.grow ((HKW.out.trans' hy.keep).trans hX (fun x hx => .inr (Nat.le_trans HKW.out.size (hge x hx)))) HT.out
  have HBB := Lib.hid (grownb8_is w.heap.size A8 m8 c8 ([40] ++ [[124]].flatten) C m d ys w6 hy.row hln hm HTX.out (by rw [hln]; omega) hgz)
  clear hq6 hy hge hln hl2 hgz f0 f1 f2 f3 g1 g2 g3
  go_wp2_with fail
  refine HBB.out.mono ?_
  intro e w7 hq7
  obtain ⟨A7, m7, c7, rfl, hy⟩ := HY.out.then (Keeps.refl _ _) hq7
  have HF := Lib.hid (HFIN.out V w7 A7 m7 c7 _ HKW.out hy (by rw [hy.len_le]; omega))
  rw [show (([40] ++ [[124]].flatten ++ ys.flatten ++ [41] : Txt)) = R by rw [HR.out]; simp] at HF
  clear hq7 hy
  go_wp2_with fail
  refine HF.out.mono ?_
  rintro e w9 ⟨A9, c9, rfl, hr9, hk9⟩
  have HX : Hid (TxtQ8 R w (.returned (.slice A9 R.length c9)) w9) := ⟨A9, c9, rfl, hr9, hk9⟩
  clear hr9 hk9
  generalize R.length = rl at HX ⊢
  go_wp2_with fail
  go_ret
  exact HX.out
 ·have HR : Hid (R = [40] ++ [33] ++ ys.flatten ++ [41]) := by show _ = _; rw [HTK.out]; simp [sgnT]
  obtain ⟨g1, g2, g3⟩ := (HG.out.keep HK0.out).keep HK1.out
  clear HTK
  go_enter Tryz.func131, Tryz.ntmps131
  go_wp2_with fail
  try rw [HW0.out]
  have HZ1 : Hid ((W0.alloc (.cells #[.int .u8 40] 5 (1, 2))).heap.size = W0.heap.size + 1) := by show _ = _; simp
  generalize W0.alloc (.cells #[.int .u8 40] 5 (1, 2)) = W1 at HK1 HL0 HCL HB1 HZ1 f0 f1 f2 f3 g1 g2 g3 ⊢
  obtain ⟨V, hV⟩ : ∃ V, W1.alloc (.cells #[.string ⟨#[33]⟩] 9) = V := ⟨_, rfl⟩
  have HKV : Hid (Keeps [] W1 V) := by rw [← hV]; exact (Keeps.refl [] W1).alloc _
  have HGB := Lib.hid (grownsm_is w.heap.size W0.heap.size [40] 1 (some ⟨W1.heap.size, 0, none⟩) 1 1 [33] [] V (HCL.out V HKV.out) rfl (by omega) (by decide) (fun X hX => strs_lit8 W1 [[33]] 1 _ rfl rfl (by simp) [] X (by simp) (by
   rw [← hV] at hX
   exact hX)) (by simp) (Nat.le_trans HSZ0.out (Nat.le_trans HK1.out.size HKV.out.size)))
  have HKW : Hid (Keeps [] w V) := HK0.out.trans' (HK1.out.trans' HKV.out)
  rw [HZ1.out] at HGB
  rw [hV]
  refine HGB.out.mono ?_
  intro e w6 hq6
  obtain ⟨A8, m8, c8, rfl, hy⟩ := hq6.start
  have HY := Lib.hid hy
  have hge := hy.ge
  have hln := hy.len
  have hl2 := hy.len2
  have hgz := Nat.le_trans HKW.out.size hy.keep.size
  have HTX : Hid (∀ X, Keeps (Value.slice A8 m8 c8).ownBlock.toList w6 X → TxsIn X C m ys) := fun X hX => TxsIn.grow ((HKW.out.trans' hy.keep).trans hX (fun x hx => .inr (Nat.le_trans HKW.out.size (hge x hx)))) HT.out
  have HBB := Lib.hid (grownb8_is w.heap.size A8 m8 c8 ([40] ++ [[33]].flatten) C m d ys w6 hy.row hln hm HTX.out (by rw [hln]; omega) hgz)
  clear hq6 hy hge hln hl2 hgz f0 f1 f2 f3 g1 g2 g3
  go_wp2_with fail
  refine HBB.out.mono ?_
  intro e w7 hq7
  obtain ⟨A7, m7, c7, rfl, hy⟩ := HY.out.then (Keeps.refl _ _) hq7
  have HF := Lib.hid (HFIN.out V w7 A7 m7 c7 _ HKW.out hy (by rw [hy.len_le]; omega))
  rw [show (([40] ++ [[33]].flatten ++ ys.flatten ++ [41] : Txt)) = R by rw [HR.out]; simp] at HF
  clear hq7 hy
  go_wp2_with fail
  refine HF.out.mono ?_
  rintro e w9 ⟨A9, c9, rfl, hr9, hk9⟩
  have HX : Hid (TxtQ8 R w (.returned (.slice A9 R.length c9)) w9) := ⟨A9, c9, rfl, hr9, hk9⟩
  clear hr9 hk9
  generalize R.length = rl at HX ⊢
  go_wp2_with fail
  go_ret
  exact HX.out
end Go.Proofs.YtbfebljahjmjfaaGreatDoor
