import Derived.Test.YtbfebljahjmjfaaGreatDoorQ41
import Derived.Test.YtbfebljahjmjfaaGreatDoorQ34
import Derived.BigQuiet
/- filter: Of; walked. -/
namespace Go.Proofs.YtbfebljahjmjfaaGreatDoor
open Go.RowKit Go.Shelf
set_option linter.unusedVariables false
set_option linter.unusedSimpArgs false
set_option maxRecDepth 100000

theorem fof_panicking (p : Nat) (x n : Int) (older : List PanicEntry) (w : World) (hc : w.cell? ⟨p, 0, none⟩ = some (.int .i64 x)) (hz : w.frozen? ⟨p, 0, none⟩ = false) :
  CallsD Tryz.prog 88 #[.pointer (some ⟨p, 0, none⟩)] (.panicking ({ v := .iface 27 (.int .i64 n), recovered := false } :: older)) w fun e u' w' =>
   e = .returned (.tuple #[]) ∧ u' = .panicking ({ v := .iface 27 (.int .i64 n), recovered := true } :: older) ∧ w' = w.setCell ⟨p, 0, none⟩ (.int .i64 n) := by
 refine callsD_of_wpS Tryz.func88 rfl fun c₀ cs hu => ?_
 apply wpS_region
 simp [wpOpsS, go_sem, recoverD, hu, Tryz.ntmps88, Exit.thenS]
 refine (frefusal_no n w).mono ?_
 rintro e w1 ⟨rfl, rfl⟩
 simp [go_sem, hc, hz]
 simp [bodyPostS, results, Tryz.results88]
theorem fof_idle (p : Nat) (x : Int) (w : World) (hc : w.cell? ⟨p, 0, none⟩ = some (.int .i64 x)) (hz : w.frozen? ⟨p, 0, none⟩ = false) :
  CallsD Tryz.prog 88 #[.pointer (some ⟨p, 0, none⟩)] .returning w fun e u' w' =>
   e = .returned (.tuple #[]) ∧ u' = .returning ∧ w' = w.setCell ⟨p, 0, none⟩ (.int .i64 0) := by
 refine callsD_of_wpS Tryz.func88 rfl fun c₀ cs hu => ?_
 apply wpS_region
 simp [wpOpsS, go_sem, recoverD, hu, Tryz.ntmps88, Exit.thenS]
 refine (frefusal_nil w).mono ?_
 rintro e w1 ⟨rfl, rfl⟩
 simp [go_sem, hc, hz]
 cases c₀
 simp_all [bodyPostS, results, Tryz.results88]
/-- Of as words. -/
def ofP (t : BV) : Option FV := match rvF 1 0 t with
 | none => none
 | some (x, _) => if rightF x = true then (if sameB t (valF x) = true then some (lowF x) else none) else none
/-- How Of ends. -/
def OfQ (t : BV) (w : World) (e : Ending) (w' : World) : Prop :=
 ((∃ x h, ofP t = some x ∧ e = .returned (.tuple #[FH.val h, .int .i64 0]) ∧ FilAt w' x h) ∨ ofP t = none ∧ e = .returned (.tuple #[FH.val ⟨0, none, 0, 0, [], []⟩, .int .i64 180])) ∧ Keeps [] w w'
set_option maxHeartbeats 8000000 in
theorem fof_is (t : BV) (h : BH) (w : World) (hN : NumsAt w) (ht : BerAt w t h) (hm : mildB t = true) (hmx : ∀ x n, rvF 1 0 t = some (x, n) → mildF x = true) (hnb : nodesB t ≤ 1000000000) :
  Calls Tryz.prog 37 #[h.val] w (OfQ t w) := by
 have hmf : ∀ (fn : Fn) (first cap : Array Value) (w : World), (Instr.makeFunc fn first cap).run Tryz.prog w = .ok (.func fn first cap) w := fun _ _ _ _ => rfl
 have HT := Lib.hid ht
 have HMX := Lib.hid hmx
 have HNB := Lib.hid hnb
 have HMY := Lib.hid (must8_yes 180)
 have HMN := Lib.hid (must8_no 180)
 have HRD := Lib.hid (fun X (hX : Keeps [] w X) => readvalue_is t h X (hN.keep hX) (BerAt.grow hX t h ht) hm)
 have HNV := Lib.hid (fun X (hX : Keeps [] w X) => hN.keep hX)
 obtain ⟨c', n', k', A', la', ca', B', lb', cb'⟩ := h
 have k1 : Keeps [] w (w.alloc (.cells #[.int .u8 (c' : Int), .int .u8 (n' : Int), .bool k', .slice A' la' ca', .slice B' lb' cb'] 40)) := (Keeps.refl [] w).alloc _
 have b1 := heap_new8 w (.cells #[.int .u8 (c' : Int), .int .u8 (n' : Int), .bool k', .slice A' la' ca', .slice B' lb' cb'] 40)
 have k2 : Keeps [] (w.alloc (.cells #[.int .u8 (c' : Int), .int .u8 (n' : Int), .bool k', .slice A' la' ca', .slice B' lb' cb'] 40)) ((w.alloc (.cells #[.int .u8 (c' : Int), .int .u8 (n' : Int), .bool k', .slice A' la' ca', .slice B' lb' cb'] 40)).alloc (.cells #[.int .i64 0, .slice none 0 0, .string ⟨#[]⟩, .string ⟨#[]⟩] 26)) := (Keeps.refl [] _).alloc _
 have b2 := heap_new8 (w.alloc (.cells #[.int .u8 (c' : Int), .int .u8 (n' : Int), .bool k', .slice A' la' ca', .slice B' lb' cb'] 40)) (.cells #[.int .i64 0, .slice none 0 0, .string ⟨#[]⟩, .string ⟨#[]⟩] 26)
 have k3 : Keeps [] ((w.alloc (.cells #[.int .u8 (c' : Int), .int .u8 (n' : Int), .bool k', .slice A' la' ca', .slice B' lb' cb'] 40)).alloc (.cells #[.int .i64 0, .slice none 0 0, .string ⟨#[]⟩, .string ⟨#[]⟩] 26)) (((w.alloc (.cells #[.int .u8 (c' : Int), .int .u8 (n' : Int), .bool k', .slice A' la' ca', .slice B' lb' cb'] 40)).alloc (.cells #[.int .i64 0, .slice none 0 0, .string ⟨#[]⟩, .string ⟨#[]⟩] 26)).alloc (.cells #[.int .i64 0] 27)) := (Keeps.refl [] _).alloc _
 have b3 := heap_new8 ((w.alloc (.cells #[.int .u8 (c' : Int), .int .u8 (n' : Int), .bool k', .slice A' la' ca', .slice B' lb' cb'] 40)).alloc (.cells #[.int .i64 0, .slice none 0 0, .string ⟨#[]⟩, .string ⟨#[]⟩] 26)) (.cells #[.int .i64 0] 27)
 obtain ⟨W0, hW0⟩ : ∃ W0, ((w.alloc (.cells #[.int .u8 (c' : Int), .int .u8 (n' : Int), .bool k', .slice A' la' ca', .slice B' lb' cb'] 40)).alloc (.cells #[.int .i64 0, .slice none 0 0, .string ⟨#[]⟩, .string ⟨#[]⟩] 26)).alloc (.cells #[.int .i64 0] 27) = W0 := ⟨_, rfl⟩
 have hz0 : W0.heap.size = w.heap.size + 3 := by rw [← hW0]; simp
 simp only [World.size_alloc] at b2 b3
 have hv0 := blk_keep (blk_keep b1 k2 (by simp)) k3 (by simp)
 have hr0 := blk_keep b2 k3 (by simp)
 have hk0 := k1.trans' (k2.trans' k3)
 rw [hW0] at hv0 hr0 b3 hk0
 have HV0 := Lib.hid (fun X (hk : Keeps [] W0 X) => blk_keep hv0 hk (by simp))
 have HR0 := Lib.hid (fun X (hk : Keeps [] W0 X) => blk_keep hr0 hk (by simp))
 have HR1 := Lib.hid (fun X (hk : Keeps [] W0 X) => blk_keep b3 hk (by simp))
 have HK0 := Lib.hid hk0
 have HZ0 := Lib.hid hz0
 have HSO := Lib.hid (fun t h X (ht : FilAt X t h) => sound_is 180 t h X ht)
 obtain ⟨⟨z0, z1, z2, z3, z4⟩, _⟩ := five_facts hv0
 clear k1 k2 k3 b1 b2 b3 hk0 hv0 hr0 hz0 ht hN hm hmx hnb
 have fin : ∀ (w3 : World), Keeps [] W0 w3 → ofP t = none → ∀ fn : Array Value, fn.getD 2 undef = .pointer (some ⟨w.heap.size + 1, 0, none⟩) → fn.getD 3 undef = .pointer (some ⟨w.heap.size + 1 + 1, 0, none⟩) →
   ∃ v, (results Tryz.f37 fn).run Tryz.prog (w3.setCell ⟨w.heap.size + 1 + 1, 0, none⟩ (.int .i64 180)) = .ok v (w3.setCell ⟨w.heap.size + 1 + 1, 0, none⟩ (.int .i64 180)) ∧ OfQ t w (.returned v) (w3.setCell ⟨w.heap.size + 1 + 1, 0, none⟩ (.int .i64 180)) := by
  intro w3 hk hd fn h2 h3
  have hks : Keeps [w.heap.size + 1 + 1] w3 (w3.setCell ⟨w.heap.size + 1 + 1, 0, none⟩ (.int .i64 180)) := (Keeps.refl _ _).setCell (.inl (by simp)) _
  refine ⟨_, results_fil_no rfl fn _ (w.heap.size + 1) (w.heap.size + 1 + 1) _ 180 (0, 0) h2 h3 rfl (blk_keep (HR0.out w3 hk) hks (by simp)) (heap_setCell_same _ _ 0 _ _ _ (HR1.out w3 hk)), .inr ⟨hd, rfl⟩, ?_⟩
  exact (HK0.out.trans' hk).setCell (.inr (by show w.heap.size ≤ w.heap.size + 1 + 1; omega)) _
 have FIN := Lib.hid fin
 clear fin
 unfold BH.val at *
 dsimp only at *
 go_enter_defers Tryz.func37, Tryz.ntmps37
 go_wp2_with fail
 refine (HRD.out W0 HK0.out).mono ?_
 rintro e w1 ⟨⟨x, n, h, hd, rfl, hf⟩ | ⟨hd, rfl⟩, hk1⟩
 rotate_left
 ·have HE : Hid (ofP t = none) := by show _ = _; unfold ofP; rw [hd]
  have hc := cell_of_blk (HR1.out w1 hk1) 0
  have hz := free_of_blk (HR1.out w1 hk1) 0
  have HK1 := Lib.hid hk1
  clear hd hk1 z0 z1 z2 z3 z4
  go_wp2_with fail
  refine leaves_cons (f := 88) (args := #[.pointer (some ⟨w.heap.size + 1 + 1, 0, none⟩)]) (by simp) (by simp [go_sem]) ?_
  refine (fof_panicking (w.heap.size + 1 + 1) 0 180 [] w1 hc hz).mono ?_
  rintro e u' w'' ⟨rfl, rfl, rfl⟩
  exact FIN.out w1 HK1.out HE.out _ rfl rfl
 ·have HD := Lib.hid hd
  have HF := Lib.hid hf
  have HK1 := Lib.hid hk1
  obtain ⟨k, B, lb, cb, s, v⟩ := h
  obtain ⟨gt, hgt⟩ : ∃ gt, w1.heap.size = gt := ⟨_, rfl⟩
  obtain ⟨W2, hW2⟩ : ∃ W2, w1.alloc (.cells #[.int .i64 k, .slice B lb cb, .string ⟨s.toArray⟩, .string ⟨v.toArray⟩] 26) = W2 := ⟨_, rfl⟩
  have hk2 : Keeps [] w1 W2 := by rw [← hW2]; exact (Keeps.refl [] w1).alloc _
  have hb2 := heap_new8 w1 (.cells #[.int .i64 k, .slice B lb cb, .string ⟨s.toArray⟩, .string ⟨v.toArray⟩] 26)
  rw [hW2, hgt] at hb2
  have HB2 := Lib.hid hb2
  have HK2 := Lib.hid (hk1.trans' hk2)
  have HZ2 : Hid (w.heap.size + 3 ≤ W2.heap.size) := by show _ ≤ _; have := HZ0.out; have := hk1.size; have := hk2.size; omega
  have HFX : Hid (∀ X, Keeps [] W2 X → FilAt X x ⟨k, B, lb, cb, s, v⟩) := fun X hX => hf [] X (by simp) (hk2.trans' hX)
  have HS1 := Lib.hid (HSO.out x ⟨k, B, lb, cb, s, v⟩ W2 (HFX.out W2 (Keeps.refl _ _)))
  unfold FH.val tv at *
  dsimp only at *
  obtain ⟨⟨y0, y1, y2, y3⟩, _⟩ := four_facts8 hb2
  clear hd hf hk1 hk2 hb2 z0 z1 z2 z3 z4
  go_wp2_with fail
  try rw [hgt]
  clear hgt
  refine HS1.out.mono ?_
  rintro e w3 ⟨⟨h2, hr, rfl, hp⟩ | ⟨hr, rfl⟩, hk3⟩
  rotate_left
  ·have HE : Hid (ofP t = none) := by show _ = _; unfold ofP; rw [HD.out]; dsimp only; rw [if_neg (by rw [hr]; simp)]
   have hkk := HK2.out.trans' hk3
   have hc := cell_of_blk (HR1.out w3 hkk) 0
   have hz := free_of_blk (HR1.out w3 hkk) 0
   have HKK := Lib.hid hkk
   clear hr hk3 hkk y0 y1 y2 y3
   go_wp2_with fail
   refine leaves_cons (f := 88) (args := #[.pointer (some ⟨w.heap.size + 1 + 1, 0, none⟩)]) (by simp) (by simp [go_sem]) ?_
   refine (fof_panicking (w.heap.size + 1 + 1) 0 180 [] w3 hc hz).mono ?_
   rintro e u' w'' ⟨rfl, rfl, rfl⟩
   exact FIN.out w3 HKK.out HE.out _ rfl rfl
  ·have HRT := Lib.hid hr
   have HP := Lib.hid hp
   obtain ⟨k2, B2, lb2, cb2, s2, v2⟩ := h2
   obtain ⟨gi, hgi⟩ : ∃ gi, w3.heap.size = gi := ⟨_, rfl⟩
   obtain ⟨W4, hW4⟩ : ∃ W4, w3.alloc (.cells #[.int .i64 k2, .slice B2 lb2 cb2, .string ⟨s2.toArray⟩, .string ⟨v2.toArray⟩] 26) = W4 := ⟨_, rfl⟩
   have hk4 : Keeps [] w3 W4 := by rw [← hW4]; exact (Keeps.refl [] w3).alloc _
   have hb4 := heap_new8 w3 (.cells #[.int .i64 k2, .slice B2 lb2 cb2, .string ⟨s2.toArray⟩, .string ⟨v2.toArray⟩] 26)
   rw [hW4, hgi] at hb4
   have HB4 := Lib.hid hb4
   have HBT := Lib.hid (blk_keep (blk_keep HB2.out hk3 (by simp)) hk4 (by simp))
   have HK34 := Lib.hid (hk3.trans' hk4)
   have HKI := Lib.hid hk4
   have HK4 := Lib.hid (HK2.out.trans' (hk3.trans' hk4))
   have HV4 := Lib.hid (HV0.out W4 HK4.out)
   have HVL := Lib.hid (valueof8_is x ⟨k, B, lb, cb, s, v⟩ W4.drew (HNV.out W4.drew ((HK0.out.trans' HK4.out).drew)) (HFX.out W4.drew HK34.out.drew) hr (HMX.out x n HD.out))
   unfold FH.val tv at *
   dsimp only at *
   clear hr hp hk3 hk4 hb4 y0 y1 y2 y3
   go_wp2_with fail
   try rw [hgi]
   clear hgi
   refine wp_region_held_drew (S := (fun X => Keeps [] W4 X)) (by kernel_rfl) ((Keeps.refl [] W4).drew) ?_
   intro HS
   refine wpAnyH_ready (rs := [0, 1]) (by kernel_rfl) (by simp) ?_
   refine AllReadyH.cons rfl (fun K hK => ?_) (AllReadyH.cons rfl (fun K hK => ?_) (AllReadyH.nil))
   ·obtain ⟨⟨d0, d1, d2, d3, d4⟩, _⟩ := five_facts (blk_keep HV4.out ((Keeps.refl [] W4).drew) (by simp))
    go_simp
    refine hK.out _ _ ((Keeps.refl [] W4).drew) (fun HS => ?_)
    clear hK K d0 d1 d2 d3 d4
    try simp only [Act.put, aL]
    refine wpAnyH_ready (rs := [1]) (by kernel_rfl) (by simp) ?_
    refine AllReadyH.cons rfl (fun K hK => ?_) (AllReadyH.nil)
    obtain ⟨⟨d0, d1, d2, d3⟩, _⟩ := four_facts8 (blk_keep HBT.out ((Keeps.refl [] W4).drew) (by simp))
    go_simp
    refine hK.out _ _ ((Keeps.refl [] W4).drew) (fun HS => ?_)
    clear hK K d0 d1 d2 d3
    try simp only [Act.put, aL]
    refine wpAnyH_ready (rs := [2]) (by kernel_rfl) (by simp) ?_
    refine AllReadyH.cons rfl (fun K hK => ?_) (AllReadyH.nil)
    go_simp
    refine HVL.out.mono ?_
    rintro e w5 ⟨h5, rfl, hb5, hk5⟩
    have HK5 : Hid (Keeps [] W4 w5) := ((Keeps.refl [] W4).drew).trans' hk5
    have HBS := Lib.hid (bsame_is t (valF x) ⟨c', n', k', A', la', ca', B', lb', cb'⟩ h5 w5 (BerAt.grow (HK0.out.trans' (HK4.out.trans' HK5.out)) t _ HT.out) (hb5 [] w5 (by simp) (Keeps.refl _ _)) HNB.out)
    obtain ⟨c5, n5, k5, A5, la5, ca5, B5, lb5, cb5⟩ := h5
    unfold BH.val at *
    dsimp only at *
    clear hb5 hk5
    refine hK.out _ _ HK5.out (fun HS => ?_)
    clear hK K
    try simp only [Act.put, aL]
    refine wpAnyH_ready (rs := [3]) (by kernel_rfl) (by simp) ?_
    refine AllReadyH.cons rfl (fun K hK => ?_) AllReadyH.nil
    go_simp
    refine HBS.out.mono ?_
    rintro e w6 ⟨rfl, hk6⟩
    have HK6 : Hid (Keeps [] W4 w6) := HK5.out.trans' hk6
    clear hk6
    refine hK.out _ _ HK6.out (fun HS => ?_)
    clear hK K
    try simp only [Act.put, aL]
    refine wpAnyH_ready (rs := [4]) (by kernel_rfl) (by simp) ?_
    refine AllReadyH.cons rfl (fun K hK => ?_) AllReadyH.nil
    cases hsb : sameB t (valF x) with
    | false =>
     have HE : Hid (ofP t = none) := by show _ = _; unfold ofP; rw [HD.out]; dsimp only; rw [if_pos HRT.out, if_neg (by rw [hsb]; simp)]
     clear hsb
     go_simp
     refine (HMN.out _).mono ?_
     rintro e w7 ⟨rfl, rfl⟩
     have hkk := HK4.out.trans' HK6.out
     have hc := cell_of_blk (HR1.out w6 hkk) 0
     have hz := free_of_blk (HR1.out w6 hkk) 0
     have HKK := Lib.hid hkk
     clear hkk
     go_wp2_with fail
     refine leaves_cons (f := 88) (args := #[.pointer (some ⟨w.heap.size + 1 + 1, 0, none⟩)]) (by simp) (by simp [go_sem]) ?_
     refine (fof_panicking (w.heap.size + 1 + 1) 0 180 [] w6 hc hz).mono ?_
     rintro e u' w'' ⟨rfl, rfl, rfl⟩
     exact FIN.out w6 HKK.out HE.out _ rfl rfl
    | true =>
     have HE : Hid (ofP t = some (lowF x)) := by show _ = _; unfold ofP; rw [HD.out]; dsimp only; rw [if_pos HRT.out, if_pos hsb]
     clear hsb
     go_simp
     refine (HMY.out _).mono ?_
     rintro e w7 ⟨rfl, rfl⟩
     refine hK.out _ _ HK6.out (fun HS => ?_)
     clear hK K
     try simp only [Act.put, aL]
     refine wpAnyH_done (by kernel_rfl) ?_ _
     have hkk := HK4.out.trans' HK6.out
     have hr3 := HR0.out w6 hkk
     have hq3 := HR1.out w6 hkk
     obtain ⟨⟨d0, d1, d2, d3⟩, _⟩ := four_facts8 (blk_keep HB4.out HK6.out (by simp))
     obtain ⟨⟨c0, c1, c2, c3⟩, ⟨f0, f1, f2, f3⟩⟩ := four_facts8 hr3
     have hc := cell_of_blk hq3 0
     have hz := free_of_blk hq3 0
     simp only [List.getElem?_toArray, List.getElem?_cons_zero] at hc
     have HR3 := Lib.hid hr3
     have HQ3 := Lib.hid hq3
     have HK3 := Lib.hid hkk
     clear hr3 hq3 hkk
     go_wp2_with fail
     have HR6' := heap_setCell_same _ (w.heap.size + 1) 0 _ _ (.int .i64 k2) HR3.out
     have HR7' := heap_setCell_same _ (w.heap.size + 1) 1 _ _ (.slice B2 lb2 cb2) HR6'
     have HR8' := heap_setCell_same _ (w.heap.size + 1) 2 _ _ (.string ⟨s2.toArray⟩) HR7'
     have hrow := heap_setCell_same _ (w.heap.size + 1) 3 _ _ (.string ⟨v2.toArray⟩) HR8'
     have hks : Keeps [w.heap.size + 1] w6 ((((w6.setCell ⟨w.heap.size + 1, 0, none⟩ (.int .i64 k2)).setCell ⟨w.heap.size + 1, 1, none⟩ (.slice B2 lb2 cb2)).setCell ⟨w.heap.size + 1, 2, none⟩ (.string ⟨s2.toArray⟩)).setCell ⟨w.heap.size + 1, 3, none⟩ (.string ⟨v2.toArray⟩)) := ((((Keeps.refl [w.heap.size + 1] w6).setCell (.inl (by simp)) _).setCell (.inl (by simp)) _).setCell (.inl (by simp)) _).setCell (.inl (by simp)) _
     clear HR6' HR7' HR8'
     generalize (((w6.setCell ⟨w.heap.size + 1, 0, none⟩ (.int .i64 k2)).setCell ⟨w.heap.size + 1, 1, none⟩ (.slice B2 lb2 cb2)).setCell ⟨w.heap.size + 1, 2, none⟩ (.string ⟨s2.toArray⟩)).setCell ⟨w.heap.size + 1, 3, none⟩ (.string ⟨v2.toArray⟩) = W7 at *
     have hq5 := blk_keep HQ3.out hks (by simp)
     have hq6 : (W7.setCell ⟨w.heap.size + 1 + 1, 0, none⟩ (.int .i64 0)).heap[w.heap.size + 1 + 1]? = some (.cells #[.int .i64 0] 27 (0, 0)) := heap_setCell_same _ _ 0 _ _ _ hq5
     have hk6 : Keeps [w.heap.size + 1 + 1] W7 (W7.setCell ⟨w.heap.size + 1 + 1, 0, none⟩ (.int .i64 0)) := (Keeps.refl _ _).setCell (.inl (by simp)) _
     refine leaves_cons (f := 88) (args := #[.pointer (some ⟨w.heap.size + 1 + 1, 0, none⟩)]) (by simp) (by simp [go_sem]) ?_
     refine (fof_idle (w.heap.size + 1 + 1) 0 _ (cell_of_blk hq6 0) (free_of_blk hq6 0)).mono ?_
     rintro e u' w'' ⟨rfl, rfl, rfl⟩
     have hk7 : Keeps [w.heap.size + 1 + 1] W7 ((W7.setCell ⟨w.heap.size + 1 + 1, 0, none⟩ (.int .i64 0)).setCell ⟨w.heap.size + 1 + 1, 0, none⟩ (.int .i64 0)) := hk6.setCell (.inl (by simp)) _
     have hkF : Keeps [w.heap.size + 1, w.heap.size + 1 + 1] w6 ((W7.setCell ⟨w.heap.size + 1 + 1, 0, none⟩ (.int .i64 0)).setCell ⟨w.heap.size + 1 + 1, 0, none⟩ (.int .i64 0)) := (hks.mono (cs := [w.heap.size + 1, w.heap.size + 1 + 1]) (by simp)).trans hk7 (fun y hy => .inl (by simp at hy; simp [hy]))
     have hzz := HZ2.out
     refine ⟨_, results_fil_no rfl _ _ (w.heap.size + 1) (w.heap.size + 1 + 1) _ 0 (0, 0) rfl rfl rfl (blk_keep hrow hk7 (by simp)) (heap_setCell_same _ _ 0 _ _ _ hq6), .inl ⟨_, ⟨k2, B2, lb2, cb2, s2, v2⟩, HE.out, rfl, HP.out _ _ (fun y hy => ?_) (((HKI.out.trans' HK6.out).mono (by simp)).trans hkF (fun y hy => .inl hy))⟩, (HK0.out.trans' HK3.out).trans hkF (fun y hy => .inr ?_)⟩
     ·simp at hy; omega
     ·simp at hy; omega
   ·obtain ⟨⟨d0, d1, d2, d3⟩, _⟩ := four_facts8 (blk_keep HBT.out ((Keeps.refl [] W4).drew) (by simp))
    go_simp
    refine hK.out _ _ ((Keeps.refl [] W4).drew) (fun HS => ?_)
    clear hK K d0 d1 d2 d3
    try simp only [Act.put, aL]
    refine wpAnyH_ready (rs := [0, 2]) (by kernel_rfl) (by simp) ?_
    refine AllReadyH.cons rfl (fun K hK => ?_) (AllReadyH.cons rfl (fun K hK => ?_) (AllReadyH.nil))
    ·obtain ⟨⟨d0, d1, d2, d3, d4⟩, _⟩ := five_facts (blk_keep HV4.out ((Keeps.refl [] W4).drew) (by simp))
     go_simp
     refine hK.out _ _ ((Keeps.refl [] W4).drew) (fun HS => ?_)
     clear hK K d0 d1 d2 d3 d4
     try simp only [Act.put, aL]
     refine wpAnyH_ready (rs := [2]) (by kernel_rfl) (by simp) ?_
     refine AllReadyH.cons rfl (fun K hK => ?_) (AllReadyH.nil)
     go_simp
     refine HVL.out.mono ?_
     rintro e w5 ⟨h5, rfl, hb5, hk5⟩
     have HK5 : Hid (Keeps [] W4 w5) := ((Keeps.refl [] W4).drew).trans' hk5
     have HBS := Lib.hid (bsame_is t (valF x) ⟨c', n', k', A', la', ca', B', lb', cb'⟩ h5 w5 (BerAt.grow (HK0.out.trans' (HK4.out.trans' HK5.out)) t _ HT.out) (hb5 [] w5 (by simp) (Keeps.refl _ _)) HNB.out)
     obtain ⟨c5, n5, k5, A5, la5, ca5, B5, lb5, cb5⟩ := h5
     unfold BH.val at *
     dsimp only at *
     clear hb5 hk5
     refine hK.out _ _ HK5.out (fun HS => ?_)
     clear hK K
     try simp only [Act.put, aL]
     refine wpAnyH_ready (rs := [3]) (by kernel_rfl) (by simp) ?_
     refine AllReadyH.cons rfl (fun K hK => ?_) AllReadyH.nil
     go_simp
     refine HBS.out.mono ?_
     rintro e w6 ⟨rfl, hk6⟩
     have HK6 : Hid (Keeps [] W4 w6) := HK5.out.trans' hk6
     clear hk6
     refine hK.out _ _ HK6.out (fun HS => ?_)
     clear hK K
     try simp only [Act.put, aL]
     refine wpAnyH_ready (rs := [4]) (by kernel_rfl) (by simp) ?_
     refine AllReadyH.cons rfl (fun K hK => ?_) AllReadyH.nil
     cases hsb : sameB t (valF x) with
     | false =>
      have HE : Hid (ofP t = none) := by show _ = _; unfold ofP; rw [HD.out]; dsimp only; rw [if_pos HRT.out, if_neg (by rw [hsb]; simp)]
      clear hsb
      go_simp
      refine (HMN.out _).mono ?_
      rintro e w7 ⟨rfl, rfl⟩
      have hkk := HK4.out.trans' HK6.out
      have hc := cell_of_blk (HR1.out w6 hkk) 0
      have hz := free_of_blk (HR1.out w6 hkk) 0
      have HKK := Lib.hid hkk
      clear hkk
      go_wp2_with fail
      refine leaves_cons (f := 88) (args := #[.pointer (some ⟨w.heap.size + 1 + 1, 0, none⟩)]) (by simp) (by simp [go_sem]) ?_
      refine (fof_panicking (w.heap.size + 1 + 1) 0 180 [] w6 hc hz).mono ?_
      rintro e u' w'' ⟨rfl, rfl, rfl⟩
      exact FIN.out w6 HKK.out HE.out _ rfl rfl
     | true =>
      have HE : Hid (ofP t = some (lowF x)) := by show _ = _; unfold ofP; rw [HD.out]; dsimp only; rw [if_pos HRT.out, if_pos hsb]
      clear hsb
      go_simp
      refine (HMY.out _).mono ?_
      rintro e w7 ⟨rfl, rfl⟩
      refine hK.out _ _ HK6.out (fun HS => ?_)
      clear hK K
      try simp only [Act.put, aL]
      refine wpAnyH_done (by kernel_rfl) ?_ _
      have hkk := HK4.out.trans' HK6.out
      have hr3 := HR0.out w6 hkk
      have hq3 := HR1.out w6 hkk
      obtain ⟨⟨d0, d1, d2, d3⟩, _⟩ := four_facts8 (blk_keep HB4.out HK6.out (by simp))
      obtain ⟨⟨c0, c1, c2, c3⟩, ⟨f0, f1, f2, f3⟩⟩ := four_facts8 hr3
      have hc := cell_of_blk hq3 0
      have hz := free_of_blk hq3 0
      simp only [List.getElem?_toArray, List.getElem?_cons_zero] at hc
      have HR3 := Lib.hid hr3
      have HQ3 := Lib.hid hq3
      have HK3 := Lib.hid hkk
      clear hr3 hq3 hkk
      go_wp2_with fail
      have HR6' := heap_setCell_same _ (w.heap.size + 1) 0 _ _ (.int .i64 k2) HR3.out
      have HR7' := heap_setCell_same _ (w.heap.size + 1) 1 _ _ (.slice B2 lb2 cb2) HR6'
      have HR8' := heap_setCell_same _ (w.heap.size + 1) 2 _ _ (.string ⟨s2.toArray⟩) HR7'
      have hrow := heap_setCell_same _ (w.heap.size + 1) 3 _ _ (.string ⟨v2.toArray⟩) HR8'
      have hks : Keeps [w.heap.size + 1] w6 ((((w6.setCell ⟨w.heap.size + 1, 0, none⟩ (.int .i64 k2)).setCell ⟨w.heap.size + 1, 1, none⟩ (.slice B2 lb2 cb2)).setCell ⟨w.heap.size + 1, 2, none⟩ (.string ⟨s2.toArray⟩)).setCell ⟨w.heap.size + 1, 3, none⟩ (.string ⟨v2.toArray⟩)) := ((((Keeps.refl [w.heap.size + 1] w6).setCell (.inl (by simp)) _).setCell (.inl (by simp)) _).setCell (.inl (by simp)) _).setCell (.inl (by simp)) _
      clear HR6' HR7' HR8'
      generalize (((w6.setCell ⟨w.heap.size + 1, 0, none⟩ (.int .i64 k2)).setCell ⟨w.heap.size + 1, 1, none⟩ (.slice B2 lb2 cb2)).setCell ⟨w.heap.size + 1, 2, none⟩ (.string ⟨s2.toArray⟩)).setCell ⟨w.heap.size + 1, 3, none⟩ (.string ⟨v2.toArray⟩) = W7 at *
      have hq5 := blk_keep HQ3.out hks (by simp)
      have hq6 : (W7.setCell ⟨w.heap.size + 1 + 1, 0, none⟩ (.int .i64 0)).heap[w.heap.size + 1 + 1]? = some (.cells #[.int .i64 0] 27 (0, 0)) := heap_setCell_same _ _ 0 _ _ _ hq5
      have hk6 : Keeps [w.heap.size + 1 + 1] W7 (W7.setCell ⟨w.heap.size + 1 + 1, 0, none⟩ (.int .i64 0)) := (Keeps.refl _ _).setCell (.inl (by simp)) _
      refine leaves_cons (f := 88) (args := #[.pointer (some ⟨w.heap.size + 1 + 1, 0, none⟩)]) (by simp) (by simp [go_sem]) ?_
      refine (fof_idle (w.heap.size + 1 + 1) 0 _ (cell_of_blk hq6 0) (free_of_blk hq6 0)).mono ?_
      rintro e u' w'' ⟨rfl, rfl, rfl⟩
      have hk7 : Keeps [w.heap.size + 1 + 1] W7 ((W7.setCell ⟨w.heap.size + 1 + 1, 0, none⟩ (.int .i64 0)).setCell ⟨w.heap.size + 1 + 1, 0, none⟩ (.int .i64 0)) := hk6.setCell (.inl (by simp)) _
      have hkF : Keeps [w.heap.size + 1, w.heap.size + 1 + 1] w6 ((W7.setCell ⟨w.heap.size + 1 + 1, 0, none⟩ (.int .i64 0)).setCell ⟨w.heap.size + 1 + 1, 0, none⟩ (.int .i64 0)) := (hks.mono (cs := [w.heap.size + 1, w.heap.size + 1 + 1]) (by simp)).trans hk7 (fun y hy => .inl (by simp at hy; simp [hy]))
      have hzz := HZ2.out
      refine ⟨_, results_fil_no rfl _ _ (w.heap.size + 1) (w.heap.size + 1 + 1) _ 0 (0, 0) rfl rfl rfl (blk_keep hrow hk7 (by simp)) (heap_setCell_same _ _ 0 _ _ _ hq6), .inl ⟨_, ⟨k2, B2, lb2, cb2, s2, v2⟩, HE.out, rfl, HP.out _ _ (fun y hy => ?_) (((HKI.out.trans' HK6.out).mono (by simp)).trans hkF (fun y hy => .inl hy))⟩, (HK0.out.trans' HK3.out).trans hkF (fun y hy => .inr ?_)⟩
      ·simp at hy; omega
      ·simp at hy; omega
    ·go_simp
     refine HVL.out.mono ?_
     rintro e w5 ⟨h5, rfl, hb5, hk5⟩
     have HK5 : Hid (Keeps [] W4 w5) := ((Keeps.refl [] W4).drew).trans' hk5
     have HBS := Lib.hid (bsame_is t (valF x) ⟨c', n', k', A', la', ca', B', lb', cb'⟩ h5 w5 (BerAt.grow (HK0.out.trans' (HK4.out.trans' HK5.out)) t _ HT.out) (hb5 [] w5 (by simp) (Keeps.refl _ _)) HNB.out)
     obtain ⟨c5, n5, k5, A5, la5, ca5, B5, lb5, cb5⟩ := h5
     unfold BH.val at *
     dsimp only at *
     clear hb5 hk5
     refine hK.out _ _ HK5.out (fun HS => ?_)
     clear hK K
     try simp only [Act.put, aL]
     refine wpAnyH_ready (rs := [0]) (by kernel_rfl) (by simp) ?_
     refine AllReadyH.cons rfl (fun K hK => ?_) (AllReadyH.nil)
     obtain ⟨⟨d0, d1, d2, d3, d4⟩, _⟩ := five_facts (blk_keep HV4.out HK5.out (by simp))
     go_simp
     refine hK.out _ _ HK5.out (fun HS => ?_)
     clear hK K d0 d1 d2 d3 d4
     try simp only [Act.put, aL]
     refine wpAnyH_ready (rs := [3]) (by kernel_rfl) (by simp) ?_
     refine AllReadyH.cons rfl (fun K hK => ?_) AllReadyH.nil
     go_simp
     refine HBS.out.mono ?_
     rintro e w6 ⟨rfl, hk6⟩
     have HK6 : Hid (Keeps [] W4 w6) := HK5.out.trans' hk6
     clear hk6
     refine hK.out _ _ HK6.out (fun HS => ?_)
     clear hK K
     try simp only [Act.put, aL]
     refine wpAnyH_ready (rs := [4]) (by kernel_rfl) (by simp) ?_
     refine AllReadyH.cons rfl (fun K hK => ?_) AllReadyH.nil
     cases hsb : sameB t (valF x) with
     | false =>
      have HE : Hid (ofP t = none) := by show _ = _; unfold ofP; rw [HD.out]; dsimp only; rw [if_pos HRT.out, if_neg (by rw [hsb]; simp)]
      clear hsb
      go_simp
      refine (HMN.out _).mono ?_
      rintro e w7 ⟨rfl, rfl⟩
      have hkk := HK4.out.trans' HK6.out
      have hc := cell_of_blk (HR1.out w6 hkk) 0
      have hz := free_of_blk (HR1.out w6 hkk) 0
      have HKK := Lib.hid hkk
      clear hkk
      go_wp2_with fail
      refine leaves_cons (f := 88) (args := #[.pointer (some ⟨w.heap.size + 1 + 1, 0, none⟩)]) (by simp) (by simp [go_sem]) ?_
      refine (fof_panicking (w.heap.size + 1 + 1) 0 180 [] w6 hc hz).mono ?_
      rintro e u' w'' ⟨rfl, rfl, rfl⟩
      exact FIN.out w6 HKK.out HE.out _ rfl rfl
     | true =>
      have HE : Hid (ofP t = some (lowF x)) := by show _ = _; unfold ofP; rw [HD.out]; dsimp only; rw [if_pos HRT.out, if_pos hsb]
      clear hsb
      go_simp
      refine (HMY.out _).mono ?_
      rintro e w7 ⟨rfl, rfl⟩
      refine hK.out _ _ HK6.out (fun HS => ?_)
      clear hK K
      try simp only [Act.put, aL]
      refine wpAnyH_done (by kernel_rfl) ?_ _
      have hkk := HK4.out.trans' HK6.out
      have hr3 := HR0.out w6 hkk
      have hq3 := HR1.out w6 hkk
      obtain ⟨⟨d0, d1, d2, d3⟩, _⟩ := four_facts8 (blk_keep HB4.out HK6.out (by simp))
      obtain ⟨⟨c0, c1, c2, c3⟩, ⟨f0, f1, f2, f3⟩⟩ := four_facts8 hr3
      have hc := cell_of_blk hq3 0
      have hz := free_of_blk hq3 0
      simp only [List.getElem?_toArray, List.getElem?_cons_zero] at hc
      have HR3 := Lib.hid hr3
      have HQ3 := Lib.hid hq3
      have HK3 := Lib.hid hkk
      clear hr3 hq3 hkk
      go_wp2_with fail
      have HR6' := heap_setCell_same _ (w.heap.size + 1) 0 _ _ (.int .i64 k2) HR3.out
      have HR7' := heap_setCell_same _ (w.heap.size + 1) 1 _ _ (.slice B2 lb2 cb2) HR6'
      have HR8' := heap_setCell_same _ (w.heap.size + 1) 2 _ _ (.string ⟨s2.toArray⟩) HR7'
      have hrow := heap_setCell_same _ (w.heap.size + 1) 3 _ _ (.string ⟨v2.toArray⟩) HR8'
      have hks : Keeps [w.heap.size + 1] w6 ((((w6.setCell ⟨w.heap.size + 1, 0, none⟩ (.int .i64 k2)).setCell ⟨w.heap.size + 1, 1, none⟩ (.slice B2 lb2 cb2)).setCell ⟨w.heap.size + 1, 2, none⟩ (.string ⟨s2.toArray⟩)).setCell ⟨w.heap.size + 1, 3, none⟩ (.string ⟨v2.toArray⟩)) := ((((Keeps.refl [w.heap.size + 1] w6).setCell (.inl (by simp)) _).setCell (.inl (by simp)) _).setCell (.inl (by simp)) _).setCell (.inl (by simp)) _
      clear HR6' HR7' HR8'
      generalize (((w6.setCell ⟨w.heap.size + 1, 0, none⟩ (.int .i64 k2)).setCell ⟨w.heap.size + 1, 1, none⟩ (.slice B2 lb2 cb2)).setCell ⟨w.heap.size + 1, 2, none⟩ (.string ⟨s2.toArray⟩)).setCell ⟨w.heap.size + 1, 3, none⟩ (.string ⟨v2.toArray⟩) = W7 at *
      have hq5 := blk_keep HQ3.out hks (by simp)
      have hq6 : (W7.setCell ⟨w.heap.size + 1 + 1, 0, none⟩ (.int .i64 0)).heap[w.heap.size + 1 + 1]? = some (.cells #[.int .i64 0] 27 (0, 0)) := heap_setCell_same _ _ 0 _ _ _ hq5
      have hk6 : Keeps [w.heap.size + 1 + 1] W7 (W7.setCell ⟨w.heap.size + 1 + 1, 0, none⟩ (.int .i64 0)) := (Keeps.refl _ _).setCell (.inl (by simp)) _
      refine leaves_cons (f := 88) (args := #[.pointer (some ⟨w.heap.size + 1 + 1, 0, none⟩)]) (by simp) (by simp [go_sem]) ?_
      refine (fof_idle (w.heap.size + 1 + 1) 0 _ (cell_of_blk hq6 0) (free_of_blk hq6 0)).mono ?_
      rintro e u' w'' ⟨rfl, rfl, rfl⟩
      have hk7 : Keeps [w.heap.size + 1 + 1] W7 ((W7.setCell ⟨w.heap.size + 1 + 1, 0, none⟩ (.int .i64 0)).setCell ⟨w.heap.size + 1 + 1, 0, none⟩ (.int .i64 0)) := hk6.setCell (.inl (by simp)) _
      have hkF : Keeps [w.heap.size + 1, w.heap.size + 1 + 1] w6 ((W7.setCell ⟨w.heap.size + 1 + 1, 0, none⟩ (.int .i64 0)).setCell ⟨w.heap.size + 1 + 1, 0, none⟩ (.int .i64 0)) := (hks.mono (cs := [w.heap.size + 1, w.heap.size + 1 + 1]) (by simp)).trans hk7 (fun y hy => .inl (by simp at hy; simp [hy]))
      have hzz := HZ2.out
      refine ⟨_, results_fil_no rfl _ _ (w.heap.size + 1) (w.heap.size + 1 + 1) _ 0 (0, 0) rfl rfl rfl (blk_keep hrow hk7 (by simp)) (heap_setCell_same _ _ 0 _ _ _ hq6), .inl ⟨_, ⟨k2, B2, lb2, cb2, s2, v2⟩, HE.out, rfl, HP.out _ _ (fun y hy => ?_) (((HKI.out.trans' HK6.out).mono (by simp)).trans hkF (fun y hy => .inl hy))⟩, (HK0.out.trans' HK3.out).trans hkF (fun y hy => .inr ?_)⟩
      ·simp at hy; omega
      ·simp at hy; omega
end Go.Proofs.YtbfebljahjmjfaaGreatDoor
