import Derived.Test.YtbfebljahjmjfaaGreatDoorQ39
import Derived.BigQuiet
/- filter: readValue's closure; walked. -/
namespace Go.Proofs.YtbfebljahjmjfaaGreatDoor
open Go.RowKit Go.Shelf
set_option linter.unusedVariables false
set_option linter.unusedSimpArgs false
set_option maxRecDepth 100000

/-- What a load in the midst may find: the closure itself, and the item at hand. -/
def SvR (gx g9 : Nat) (u : Value) (ob : Obj) (X : World) : Prop := X.cell? ⟨gx, 0, none⟩ = some u ∧ X.heap[g9]? = some ob
theorem SvR.keep {gx g9 : Nat} {u : Value} {ob : Obj} {X Y : World} {bs : List Nat} (h : SvR gx g9 u ob X) (hk : Keeps bs X Y) (h1 : gx ∉ bs) (h2 : g9 ∉ bs) : SvR gx g9 u ob Y :=
 ⟨(hk.cell (p := ⟨gx, 0, none⟩) (lt_of_cell h.1) h1).trans h.1, blk_keep h.2 hk h2⟩
theorem SvR.drew {gx g9 : Nat} {u : Value} {ob : Obj} {X : World} (h : SvR gx g9 u ob X) : SvR gx g9 u ob X.drew := h
set_option maxHeartbeats 16000000 in
theorem rvc_is (gp gx gm gn : Nat) (w0 : World) (hgm0 : w0.heap.size ≤ gm) (hN : NumsAt w0) : ∀ (t : BV) (d m : Nat) (h : BH) (w : World), d ≤ 17 → m ≤ 200 → BerAt w0 t h → Keeps [] w0 w → EnvV gp gx gm gn w → PassAt w gm gn m 180 → mildB t = true →
  Calls Tryz.prog 141 #[h.val, .int .i64 (d : Int), .pointer (some ⟨gp, 0, none⟩), .pointer (some ⟨gx, 0, none⟩)] w (RvQ d m t gm gn w) := by
 obtain ⟨iu, hiu, hzu0, hzu1, hzu2⟩ := info_parts fil_info8
 intro t
 induction t using BV.ind with
 | h c0 n0 k0 b0 l ih =>
  intro d m h w hd hm ht hk0 hE hP hmild
  obtain ⟨hm3, hm4, hml⟩ := mildB_num hmild
  have HML := Lib.hid hml
  have IH := Lib.hid ih
  have hgmw := lt_of_heap hP.many
  have hgnw := lt_of_heap hP.no
  have hgxw : gx < w.heap.size := lt_of_cell hE.next
  have hgxm := hE.n3
  have HPS := Lib.hid (fun X hX => pass8_is d gm gn m 180 X (by omega) (by omega) hX)
  obtain ⟨ch, nh, kh, Ah, lah, cah, Bh, lb, cbh⟩ := h
  have HT := Lib.hid ht
  obtain ⟨h1, h2, h3, h4, h5, h6, h7, h8, h9, h10, h11⟩ := ht
  dsimp only at h1 h2 h3
  subst h1 h2 h3
  have hl : l.length = lb := h8
  have hlb : lb ≤ 9223372036854775807 := Nat.le_trans h9 h10
  have HI := Lib.hid h11
  have HL := Lib.hid hl
  have HK0 := Lib.hid hk0
  have HE := Lib.hid hE
  have HP := Lib.hid hP
  have HM34 : Hid (nh ≠ 3 ∧ nh ≠ 4) := ⟨hm3, hm4⟩
  have HNH : Hid (nh < 256) := h5
  have hka : Keeps [] w (w.alloc (.cells #[.int .u8 (ch : Int), .int .u8 (nh : Int), .bool kh, .slice Ah lah cah, .slice Bh lb cbh] 40)) := (Keeps.refl [] w).alloc _
  have HKB : Hid (Keeps [] w ((w.alloc (.cells #[.int .u8 (ch : Int), .int .u8 (nh : Int), .bool kh, .slice Ah lah cah, .slice Bh lb cbh] 40)).alloc (.cells #[.int .i64 0, .slice none 0 0, .string ⟨#[]⟩, .string ⟨#[]⟩] 26))) := hka.alloc _
  have HB2 := Lib.hid (blk_keep (heap_new8 w (.cells #[.int .u8 (ch : Int), .int .u8 (nh : Int), .bool kh, .slice Ah lah cah, .slice Bh lb cbh] 40)) ((Keeps.refl [] _).alloc (.cells #[.int .i64 0, .slice none 0 0, .string ⟨#[]⟩, .string ⟨#[]⟩] 26)) (by simp))
  have HR2 := Lib.hid (heap_new8 (w.alloc (.cells #[.int .u8 (ch : Int), .int .u8 (nh : Int), .bool kh, .slice Ah lah cah, .slice Bh lb cbh] 40)) (.cells #[.int .i64 0, .slice none 0 0, .string ⟨#[]⟩, .string ⟨#[]⟩] 26))
  rw [World.size_alloc] at HR2
  have HZ : Hid (((w.alloc (.cells #[.int .u8 (ch : Int), .int .u8 (nh : Int), .bool kh, .slice Ah lah cah, .slice Bh lb cbh] 40)).alloc (.cells #[.int .i64 0, .slice none 0 0, .string ⟨#[]⟩, .string ⟨#[]⟩] 26)).heap.size = w.heap.size + 2) := by show _ = _; simp
  have HKO := Lib.hid (fun X (hX : Keeps [] w0 X) => kindof8_is nh h5 X (hN.keep hX))
  clear h4 h5 h6 h7 h8 h9 h10 h11 hl hk0 hE hP ih hka hml hmild hm3 hm4
  unfold BH.val
  dsimp only
  obtain ⟨e1, e2, _, _⟩ := HE.out.keep (HKB.out.mono (cs := [gm]) (by simp))
  go_enter Tryz.func141, Tryz.ntmps141
  go_wp2_with fail
  have HP1 := Lib.hid (HP.out.keep HKB.out (by simp) (by simp))
  generalize (w.alloc (.cells #[.int .u8 (ch : Int), .int .u8 (nh : Int), .bool kh, .slice Ah lah cah, .slice Bh lb cbh] 40)).alloc (.cells #[.int .i64 0, .slice none 0 0, .string ⟨#[]⟩, .string ⟨#[]⟩] 26) = W1 at HKB HB2 HR2 HZ HP1 e1 e2 ⊢
  refine (HPS.out W1 HP1.out).mono ?_
  rintro e w2 ⟨⟨hc, rfl⟩ | ⟨hc, rfl⟩, hp2, hk2⟩
  rotate_left
  ·have HK2 := Lib.hid ((HKB.out.mono (cs := [gm]) (by simp)).trans' hk2)
   have HNO := Lib.hid (rvF_off (t := .mk ch nh kh b0 l) hc)
   clear hk2 hp2 hc
   go_wp2_with fail
   exact ⟨rfl, .inr ⟨HNO.out, rfl⟩, HK2.out⟩
  ·have HC := Lib.hid hc
   have HK2 := Lib.hid ((HKB.out.mono (cs := [gm]) (by simp)).trans' hk2)
   have HB3 := Lib.hid (blk_keep HB2.out hk2 (by simp; omega))
   have HR3 := Lib.hid (blk_keep HR2.out hk2 (by simp; omega))
   have HP2 := Lib.hid hp2
   have HZ2 : Hid (w.heap.size + 2 ≤ w2.heap.size) := by show _ ≤ _; rw [← HZ.out]; exact hk2.size
   have HKW2 : Hid (Keeps [] w0 w2) := HK0.out.trans HK2.out (fun x hx => .inr (by rw [List.mem_singleton.1 hx]; exact hgm0))
   obtain ⟨⟨z0, z1, z2, z3, z4⟩, _⟩ := five_facts HB3.out
   clear hc hk2 hp2 e1 e2
   go_wp2_with fail
   refine (HKO.out _ HKW2.out).mono ?_
   rintro e w3 ⟨rfl, hk3⟩
   have HB4 := Lib.hid (blk_keep HB3.out hk3 (by simp))
   have HR4 := Lib.hid (blk_keep HR3.out hk3 (by simp))
   have HP4 := Lib.hid (HP2.out.keep hk3 (by simp) (by simp))
   have HK4 := Lib.hid (HK2.out.trans' (hk3.mono (by simp)))
   have HZ4 : Hid (w.heap.size + 2 ≤ w3.heap.size) := Nat.le_trans HZ2.out hk3.size
   have hkin := kindN_in nh
   obtain ⟨K, hK0⟩ : ∃ K, kindN nh = K := ⟨_, rfl⟩
   rw [hK0] at hkin ⊢
   have HKN := Lib.hid hK0
   have HKI : Hid (-9223372036854775808 ≤ K ∧ K ≤ 9223372036854775807) := ⟨by omega, by omega⟩
   obtain ⟨B, hB⟩ : ∃ B, w3.heap.size = B := ⟨_, rfl⟩
   obtain ⟨W4, hW4⟩ : ∃ W4, w3.alloc (.cells #[.int .i64 K, .slice none 0 0, .string ⟨#[]⟩, .string ⟨#[]⟩] 26) = W4 := ⟨_, rfl⟩
   have hk4 : Keeps [] w3 W4 := by rw [← hW4]; exact (Keeps.refl [] w3).alloc _
   have hf4 := heap_new8 w3 (.cells #[.int .i64 K, .slice none 0 0, .string ⟨#[]⟩, .string ⟨#[]⟩] 26)
   rw [hW4, hB] at hf4
   have HF5 := Lib.hid hf4
   have HBW : Hid (w.heap.size + 1 < B) := by have := HZ4.out; show _ < _; omega
   have hBw := HBW.out
   have HB5 := Lib.hid (blk_keep HB4.out hk4 (by simp))
   have HR5 := Lib.hid (blk_keep HR4.out hk4 (by simp))
   have HP5 := Lib.hid (HP4.out.keep hk4 (by simp) (by simp))
   have HK5 := Lib.hid (HK4.out.trans' (hk4.mono (by simp)))
   have HW4 := Lib.hid hW4
   clear hW4
   go_upto_region 3 with fail
   rw [HW4.out]
   clear hk3 hk4 hf4 hB z0 z1 z2 z3 z4
   obtain ⟨⟨z0, z1, z2, z3, z4⟩, _⟩ := five_facts HB5.out
   obtain ⟨⟨q0, q1, q2, q3⟩, p0, p1, p2, p3⟩ := four_facts8 HF5.out
   by_cases h7 : nh = 7
   ·subst h7
    have HYES := Lib.hid (rvF_has (c := ch) (k := kh) (b := b0) (l := l) HC.out)
    obtain rfl : K = 6 := by rw [← HKN.out]; rfl
    have HBA := Lib.hid (fun X (hX : Keeps [] w0 X) => bytesat_none (.mk ch 7 kh b0 l) ⟨ch, 7, kh, Ah, lah, cah, Bh, lb, cbh⟩ X (BerAt.grow hX _ _ HT.out))
    have HKW4 : Hid (Keeps [] w0 W4) := HK0.out.trans HK5.out (fun x hx => .inr (by rw [List.mem_singleton.1 hx]; exact hgm0))
    have HBL : Hid (b0.length ≤ 9223372036854775807) := by
     obtain ⟨_, _, _, _, _, _, hb, _⟩ := HT.out
     obtain ⟨_, _, _, h8, h9, _⟩ := hb
     unfold maxLen at h9
     show _ ≤ _
     omega
    unfold BH.val tv at HBA
    dsimp only [BV.b] at HBA
    clear hkin hK0
    go_wp2_with fail
    refine (HBA.out _ HKW4.out).mono ?_
    rintro e w5 ⟨rfl, hk5⟩
    have HF6 := Lib.hid (blk_keep HF5.out hk5 (by simp))
    have HR6 := Lib.hid (blk_keep HR5.out hk5 (by simp))
    have HP6 := Lib.hid (HP5.out.keep hk5 (by simp) (by simp))
    have HK6 := Lib.hid (HK5.out.trans' (hk5.mono (by simp)))
    clear hk5 q0 q1 q2 q3 p0 p1 p2 p3 z0 z1 z2 z3 z4
    obtain ⟨⟨q0, q1, q2, q3⟩, p0, p1, p2, p3⟩ := four_facts8 HF6.out
    obtain ⟨W6, hW6⟩ : ∃ W6, w5.setCell ⟨B, 2, none⟩ (.string ⟨b0.toArray⟩) = W6 := ⟨_, rfl⟩
    have hk6 : Keeps [B] w5 W6 := by rw [← hW6]; exact (Keeps.refl [B] w5).setCell (.inl (by simp)) _
    have hf6 := heap_setCell_same _ B 2 _ _ (.string ⟨b0.toArray⟩) HF6.out
    rw [hW6] at hf6
    have HF7 := Lib.hid hf6
    have HR7 := Lib.hid (blk_keep HR6.out hk6 (by simp; omega))
    have HP7 := Lib.hid (HP6.out.keep hk6 (by simp; omega) (by simp; omega))
    have HK7 : Hid (Keeps [gm] w W6) := HK6.out.trans hk6 (fun x hx => .inr (by rw [List.mem_singleton.1 hx]; omega))
    clear hk6 hf6
    obtain ⟨⟨y0, y1, y2, y3⟩, _⟩ := four_facts8 HF7.out
    obtain ⟨⟨r0, r1, r2, r3⟩, r4, r5, r6, r7⟩ := four_facts8 HR7.out
    go_wp2_with fail
    have HR6' := heap_setCell_same _ (w.heap.size + 1) 0 _ _ (.int .i64 6) HR7.out
    have HR7' := heap_setCell_same _ (w.heap.size + 1) 1 _ _ (.slice none 0 0) HR6'
    have HR8' := heap_setCell_same _ (w.heap.size + 1) 2 _ _ (.string ⟨b0.toArray⟩) HR7'
    have HR10 := heap_setCell_same _ (w.heap.size + 1) 3 _ _ (.string ⟨#[]⟩) HR8'
    refine bodyPost_ret (results_cell_row rfl _ _ (w.heap.size + 1) _ #[.int .i64 6, .slice none 0 0, .string ⟨b0.toArray⟩, .string ⟨#[]⟩] (0, 0) _ rfl HR10 Tryz.underlying26 rfl (by kernel_rfl)) rfl ?_
    have k9 : Keeps [w.heap.size + 1] W6 ((((W6.setCell ⟨w.heap.size + 1, 0, none⟩ (.int .i64 6)).setCell ⟨w.heap.size + 1, 1, none⟩ (.slice none 0 0)).setCell ⟨w.heap.size + 1, 2, none⟩ (.string ⟨b0.toArray⟩)).setCell ⟨w.heap.size + 1, 3, none⟩ (.string ⟨#[]⟩)) := ((((Keeps.refl [w.heap.size + 1] W6).setCell (.inl (by simp)) _).setCell (.inl (by simp)) _).setCell (.inl (by simp)) _).setCell (.inl (by simp)) _
    exact ⟨.inl ⟨_, m + 1, ⟨6, none, 0, 0, b0, []⟩, HYES.out, rfl, HP7.out.keep k9 (by simp; omega) (by simp; omega), fun E X hE hX => ⟨rfl, rfl, rfl, by omega, by omega, HBL.out, by simp, rfl, Nat.le_refl _, by show (0 : Nat) ≤ _; omega, trivial⟩⟩, HK7.out.trans k9 (fun x hx => .inr (by rw [List.mem_singleton.1 hx]; omega))⟩
   ·have hk6 : K ≠ 4 ∧ K ≠ 5 ∧ K ≠ 6 := by
     have h9 := HKN.out
     have h3 := HM34.out.1
     have h4 := HM34.out.2
     unfold kindN at h9
     refine ⟨?_, ?_, ?_⟩ <;> (intro h8; subst h8; repeat' split at h9) <;> omega
    have kb4 : (K == 4) = false := by simpa using hk6.1
    have kb5 : (K == 5) = false := by simpa using hk6.2.1
    have kb6 : (K == 6) = false := by simpa using hk6.2.2
    have HMANY := Lib.hid (rvF_many (c := ch) (k := kh) (b := b0) (l := l) HC.out h7 HM34.out.1 HM34.out.2)
    rw [HKN.out] at HMANY
    have HS0 : Hid (RvS w W4 gm gn B K [] [] none 0 0 [] [] (m + 1)) := ⟨HP5.out, HF5.out, HR5.out, World.ownsRow_nil _ _ _ _, rfl, rfl, (fun _ _ _ _ i t h ht => by simp at ht), HK5.out, HBW.out, by have := HC.out.1; omega, Nat.zero_le _⟩
    have HCN0 : Hid (rvL (d + 1) (m + 1) (l.take 0) = some ([], m + 1)) := by show _ = _; simp [rvL]
    clear hk6 h7 hkin hK0
    go_wp2_with fail
    clear q0 q1 q2 q3 p0 p1 p2 p3 z0 z1 z2 z3 z4 kb4 kb5 kb6
    go_loopw [22] (fun i wr => ∃ (j : Nat) (A : Option Addr) (c : Nat) (hs : List FH) (fs : List FV) (n : Nat), i = .int .i64 (j : Int) ∧ j ≤ lb ∧ Hid (rvL (d + 1) (m + 1) (l.take j) = some (fs, n)) ∧ Hid (RvS w wr gm gn B K [] [] A j c hs fs n) ∧ Hid (wr.heap[w.heap.size]? = some (.cells #[.int .u8 (ch : Int), .int .u8 (nh : Int), .bool kh, .slice Ah lah cah, .slice Bh lb cbh] 40 (0, 0)))) (fun i _ => lb - (intOf i).toNat)
    case atStart => exact ⟨0, none, 0, [], [], m + 1, rfl, Nat.zero_le _, HCN0.out, HS0.out, HB5.out⟩
    case round =>
     obtain ⟨j, A, c, hs, fs, n, rfl, hj, HCNT, HS, HVB⟩ := hrel
     have hjn : j ≤ 200 := Nat.le_trans HS.out.jn HS.out.nle
     have hn200 := HS.out.nle
     obtain ⟨⟨q0, q1, q2, q3⟩, p0, p1, p2, p3⟩ := four_facts8 HS.out.box
     have HKW : Hid (Keeps [] w0 wr) := HK0.out.trans HS.out.keep (fun x hx => .inr (by rw [List.mem_singleton.1 hx]; exact hgm0))
     by_cases hlt : j < lb
     ·have hx : l[j]? = some (l[j]'(by have := HL.out; omega)) := List.getElem?_eq_getElem _
      obtain ⟨b9, o1, hh, rfl, hc0, hat⟩ := HI.out.at_ j _ hx
      rw [Nat.zero_add] at hc0
      have hc9 : ∀ q u, (BH.list hh)[q]? = some u → wr.cell? ⟨b9, o1 + j * 5 + q, none⟩ = some u := fun q u hu => (HKW.out.cell (lt_of_cell (hc0 q u hu)) (by simp)).trans (hc0 q u hu)
      obtain ⟨g0, g1, g2, g3, g4⟩ := five_at hc9
      have hmem : (l[j]'(by have := HL.out; omega)) ∈ l := List.getElem_mem _
      generalize hxx : l[j]'(by have := HL.out; omega) = x at *
      obtain ⟨c', n', k', A', la', ca', B', lb', cb'⟩ := hh
      have HXX := Lib.hid hx
      obtain ⟨g9, hg9⟩ : ∃ g9, wr.heap.size = g9 := ⟨_, rfl⟩
      obtain ⟨X, hX⟩ : ∃ X, wr.alloc (.cells #[.int .u8 (c' : Int), .int .u8 (n' : Int), .bool k', .slice A' la' ca', .slice B' lb' cb'] 40) = X := ⟨_, rfl⟩
      have hkX : Keeps [] wr X := by rw [← hX]; exact (Keeps.refl [] wr).alloc _
      have hb9 := heap_new8 wr (.cells #[.int .u8 (c' : Int), .int .u8 (n' : Int), .bool k', .slice A' la' ca', .slice B' lb' cb'] 40)
      rw [hX, hg9] at hb9
      have HG9 : Hid (wr.heap.size = g9) := hg9
      have hBg : B < g9 := by rw [← hg9]; exact lt_of_heap HS.out.box
      have hwg : w.heap.size + 2 ≤ g9 := by omega
      have HSX := Lib.hid (HS.out.grow hkX)
      have HVX := Lib.hid (blk_keep HVB.out hkX (by simp))
      have hEX := HE.out.keep (HS.out.keep.trans' (hkX.mono (cs := [gm]) (by simp)))
      have s0 : SvR gx g9 (.func (.func 141) #[] #[.pointer (some ⟨gp, 0, none⟩), .pointer (some ⟨gx, 0, none⟩)]) (.cells #[.int .u8 (c' : Int), .int .u8 (n' : Int), .bool k', .slice A' la' ca', .slice B' lb' cb'] 40 (0, 0)) X := ⟨hEX.next, hb9⟩
      have hw : IntKind.i64.wrap ((d : Int) + 1) = ((d : Int) + 1) := IntWalk.i64_in _ (by have := HC.out.2; omega)
      have hji : (j : Int) < (lb : Int) := by omega
      have hj0 : (0 : Int) ≤ (j : Int) := by omega
      have HIH : Hid (Calls Tryz.prog 141 #[.agg #[.int .u8 (c' : Int), .int .u8 (n' : Int), .bool k', .slice A' la' ca', .slice B' lb' cb'], .int .i64 ((d : Int) + 1), .pointer (some ⟨gp, 0, none⟩), .pointer (some ⟨gx, 0, none⟩)] X.drew (RvQ (d + 1) n x gm gn X.drew)) := by
       have h9 := IH.out x hmem (d + 1) n ⟨c', n', k', A', la', ca', B', lb', cb'⟩ X.drew (by have := HC.out.2; omega) hn200 hat (HKW.out.trans' (hkX.trans' (Keeps.refl [] X).drew)) (hEX.keep ((Keeps.refl [gm] X).drew)) (HSX.out.pass.keep ((Keeps.refl [] X).drew) (by simp) (by simp)) (mildBL_mem l x HML.out hmem)
       rw [show ((d + 1 : Nat) : Int) = (d : Int) + 1 by omega] at h9
       exact h9
      have hgxB : gx < B := by omega
      have hgmB : gm < B := by omega
      clear hx hat hc0 hc9 hxx hmem hkX hb9 hEX
      go_upto_region 7 with fail
      clear g0 g1 g2 g3 g4 q0 q1 q2 q3 p0 p1 p2 p3
      try rw [hg9]
      clear hg9
      obtain ⟨⟨q0, q1, q2, q3⟩, p0, p1, p2, p3⟩ := four_facts8 HSX.out.box
      cases hr2 : rvF (d + 1) n x with
      | none =>
       have HNO : Hid (rvF d m (.mk ch nh kh b0 l) = none) := by
        have h8 : rvL (d + 1) (m + 1) (l.take (j + 1)) = none := by
         rw [List.take_add_one, HXX.out]
         show rvL _ _ (l.take j ++ [x]) = none
         rw [rvL_snoc, HCNT.out]
         dsimp only
         rw [hr2]
        have h7 := rvL_none (d + 1) (l.take (j + 1)) (l.drop (j + 1)) (m + 1) h8
        rw [List.take_append_drop] at h7
        show _ = _
        rw [HMANY.out, h7]
       have HRECN : Hid (Calls Tryz.prog 141 #[.agg #[.int .u8 (c' : Int), .int .u8 (n' : Int), .bool k', .slice A' la' ca', .slice B' lb' cb'], .int .i64 ((d : Int) + 1), .pointer (some ⟨gp, 0, none⟩), .pointer (some ⟨gx, 0, none⟩)] X.drew fun e w' => e = gaveUp8 180 ∧ Keeps [gm] X.drew w') := by
        refine HIH.out.mono ?_
        rintro e w' ⟨⟨t, n, h, h1, _⟩ | ⟨_, h2⟩, h3⟩
        ·rw [hr2] at h1; cases h1
        ·exact ⟨h2, h3⟩
       clear hr2 HIH
       refine wp_region_held_drew (S := SvR gx g9 (.func (.func 141) #[] #[.pointer (some ⟨gp, 0, none⟩), .pointer (some ⟨gx, 0, none⟩)]) (.cells #[.int .u8 (c' : Int), .int .u8 (n' : Int), .bool k', .slice A' la' ca', .slice B' lb' cb'] 40 (0, 0))) (by kernel_rfl) s0.drew ?_
       intro HS2
       replace s0 := s0.drew
       refine wpAnyH_take (i := 0) (v := .pointer (some ⟨B, 1, none⟩)) rfl (by kernel_rfl) (by kernel_rfl) (by kernel_rfl) (fun _ _ _ h => h) (Or.inl ⟨by kernel_rfl, ?_⟩) (by first | exact s9 | exact s8 | exact s7 | exact s6 | exact s0) ?_
       ·intro w5 hw5
        obtain ⟨hw9, hw10⟩ := hw5
        obtain ⟨⟨t0, t1, t2, t3, t4⟩, _⟩ := five_facts hw10
        go_simp
       simp only [Act.put, aL]
       refine wpAnyH_take (i := 2) (v := .func (.func 141) #[] #[.pointer (some ⟨gp, 0, none⟩), .pointer (some ⟨gx, 0, none⟩)]) rfl (by kernel_rfl) (by kernel_rfl) (by kernel_rfl) (fun _ _ _ h => h) (Or.inl ⟨by kernel_rfl, ?_⟩) (by first | exact s9 | exact s8 | exact s7 | exact s6 | exact s0) ?_
       ·intro w5 hw5
        obtain ⟨hw9, hw10⟩ := hw5
        obtain ⟨⟨t0, t1, t2, t3, t4⟩, _⟩ := five_facts hw10
        go_simp
       simp only [Act.put, aL]
       refine wpAnyH_take (i := 3) (v := .agg #[.int .u8 (c' : Int), .int .u8 (n' : Int), .bool k', .slice A' la' ca', .slice B' lb' cb']) rfl (by kernel_rfl) (by kernel_rfl) (by kernel_rfl) (fun _ _ _ h => h) (Or.inl ⟨by kernel_rfl, ?_⟩) (by first | exact s9 | exact s8 | exact s7 | exact s6 | exact s0) ?_
       ·intro w5 hw5
        obtain ⟨hw9, hw10⟩ := hw5
        obtain ⟨⟨t0, t1, t2, t3, t4⟩, _⟩ := five_facts hw10
        go_simp
       simp only [Act.put, aL]
       refine wpAnyH_take (i := 4) (v := .int .i64 (d : Int)) rfl (by kernel_rfl) (by kernel_rfl) (by kernel_rfl) (fun _ _ _ h => h) (Or.inl ⟨by kernel_rfl, ?_⟩) (by first | exact s9 | exact s8 | exact s7 | exact s6 | exact s0) ?_
       ·intro w5 hw5
        obtain ⟨hw9, hw10⟩ := hw5
        obtain ⟨⟨t0, t1, t2, t3, t4⟩, _⟩ := five_facts hw10
        go_simp
       simp only [Act.put, aL]
       refine wpAnyH_take (i := 5) (v := .int .i64 ((d : Int) + 1)) rfl (by kernel_rfl) (by kernel_rfl) (by kernel_rfl) (fun _ _ _ h => h) (Or.inl ⟨by kernel_rfl, ?_⟩) (by first | exact s9 | exact s8 | exact s7 | exact s6 | exact s0) ?_
       ·intro w5 hw5
        obtain ⟨hw9, hw10⟩ := hw5
        obtain ⟨⟨t0, t1, t2, t3, t4⟩, _⟩ := five_facts hw10
        go_simp
       simp only [Act.put, aL]
       refine wpAnyH_ready (rs := [1, 6]) (by kernel_rfl) (by simp) ?_
       refine AllReadyH.cons rfl (fun K' hK => ?_) (AllReadyH.cons rfl (fun K' hK => ?_) (AllReadyH.nil))
       ·go_simp
        refine hK.out _ _ (by first | exact s9 | exact s8 | exact s7 | exact s6 | exact s0) (fun HS2 => ?_)
        clear hK K'
        try simp only [Act.put, aL]
        refine wpAnyH_ready (rs := [6]) (by kernel_rfl) (by simp) ?_
        refine AllReadyH.cons rfl (fun K' hK => ?_) (AllReadyH.nil)
        go_simp
        refine HRECN.out.mono ?_
        rintro e w6 ⟨rfl, hk6⟩
        have HK6 : Hid (Keeps [gm] w w6) := HSX.out.keep.trans' (((Keeps.refl [gm] X).drew).trans' hk6)
        clear hk6
        go_wp2_with fail
        exact ⟨rfl, .inr ⟨HNO.out, rfl⟩, HK6.out⟩
       ·go_simp
        refine HRECN.out.mono ?_
        rintro e w6 ⟨rfl, hk6⟩
        have HK6 : Hid (Keeps [gm] w w6) := HSX.out.keep.trans' (((Keeps.refl [gm] X).drew).trans' hk6)
        clear hk6
        go_wp2_with fail
        exact ⟨rfl, .inr ⟨HNO.out, rfl⟩, HK6.out⟩
      | some y =>
       obtain ⟨t1, n1⟩ := y
       have hle := rvF_le _ _ _ _ _ hr2
       have HN1 : Hid (n < n1 ∧ n1 ≤ 200) := ⟨by omega, by omega⟩
       have HCNT2 : Hid (rvL (d + 1) (m + 1) (l.take (j + 1)) = some (fs ++ [t1], n1)) := by
        show _ = _
        rw [List.take_add_one, HXX.out]
        show rvL _ _ (l.take j ++ [x]) = _
        rw [rvL_snoc, HCNT.out]
        dsimp only
        rw [hr2]
       have HREC0 : Hid (Calls Tryz.prog 141 #[.agg #[.int .u8 (c' : Int), .int .u8 (n' : Int), .bool k', .slice A' la' ca', .slice B' lb' cb'], .int .i64 ((d : Int) + 1), .pointer (some ⟨gp, 0, none⟩), .pointer (some ⟨gx, 0, none⟩)] X.drew fun e w' => ∃ h, e = .returned (FH.val h) ∧ PassAt w' gm gn n1 180 ∧ (∀ (E : List Nat) Y, (∀ x ∈ E, x < X.drew.heap.size) → Keeps E w' Y → FilAt Y t1 h) ∧ Keeps [gm] X.drew w') := by
        refine HIH.out.mono ?_
        rintro e w' ⟨⟨t', n', h, h1, h2, h3, h4⟩ | ⟨h1, _⟩, h6⟩
        ·rw [hr2] at h1; cases h1; exact ⟨h, h2, h3, h4, h6⟩
        ·rw [hr2] at h1; cases h1
       clear hr2 HIH hle
       refine wp_region_held_drew (S := SvR gx g9 (.func (.func 141) #[] #[.pointer (some ⟨gp, 0, none⟩), .pointer (some ⟨gx, 0, none⟩)]) (.cells #[.int .u8 (c' : Int), .int .u8 (n' : Int), .bool k', .slice A' la' ca', .slice B' lb' cb'] 40 (0, 0))) (by kernel_rfl) s0.drew ?_
       intro HS2
       replace s0 := s0.drew
       refine wpAnyH_take (i := 0) (v := .pointer (some ⟨B, 1, none⟩)) rfl (by kernel_rfl) (by kernel_rfl) (by kernel_rfl) (fun _ _ _ h => h) (Or.inl ⟨by kernel_rfl, ?_⟩) (by first | exact s9 | exact s8 | exact s7 | exact s6 | exact s0) ?_
       ·intro w5 hw5
        obtain ⟨hw9, hw10⟩ := hw5
        obtain ⟨⟨t0, t1, t2, t3, t4⟩, _⟩ := five_facts hw10
        go_simp
       simp only [Act.put, aL]
       refine wpAnyH_take (i := 2) (v := .func (.func 141) #[] #[.pointer (some ⟨gp, 0, none⟩), .pointer (some ⟨gx, 0, none⟩)]) rfl (by kernel_rfl) (by kernel_rfl) (by kernel_rfl) (fun _ _ _ h => h) (Or.inl ⟨by kernel_rfl, ?_⟩) (by first | exact s9 | exact s8 | exact s7 | exact s6 | exact s0) ?_
       ·intro w5 hw5
        obtain ⟨hw9, hw10⟩ := hw5
        obtain ⟨⟨t0, t1, t2, t3, t4⟩, _⟩ := five_facts hw10
        go_simp
       simp only [Act.put, aL]
       refine wpAnyH_take (i := 3) (v := .agg #[.int .u8 (c' : Int), .int .u8 (n' : Int), .bool k', .slice A' la' ca', .slice B' lb' cb']) rfl (by kernel_rfl) (by kernel_rfl) (by kernel_rfl) (fun _ _ _ h => h) (Or.inl ⟨by kernel_rfl, ?_⟩) (by first | exact s9 | exact s8 | exact s7 | exact s6 | exact s0) ?_
       ·intro w5 hw5
        obtain ⟨hw9, hw10⟩ := hw5
        obtain ⟨⟨t0, t1, t2, t3, t4⟩, _⟩ := five_facts hw10
        go_simp
       simp only [Act.put, aL]
       refine wpAnyH_take (i := 4) (v := .int .i64 (d : Int)) rfl (by kernel_rfl) (by kernel_rfl) (by kernel_rfl) (fun _ _ _ h => h) (Or.inl ⟨by kernel_rfl, ?_⟩) (by first | exact s9 | exact s8 | exact s7 | exact s6 | exact s0) ?_
       ·intro w5 hw5
        obtain ⟨hw9, hw10⟩ := hw5
        obtain ⟨⟨t0, t1, t2, t3, t4⟩, _⟩ := five_facts hw10
        go_simp
       simp only [Act.put, aL]
       refine wpAnyH_take (i := 5) (v := .int .i64 ((d : Int) + 1)) rfl (by kernel_rfl) (by kernel_rfl) (by kernel_rfl) (fun _ _ _ h => h) (Or.inl ⟨by kernel_rfl, ?_⟩) (by first | exact s9 | exact s8 | exact s7 | exact s6 | exact s0) ?_
       ·intro w5 hw5
        obtain ⟨hw9, hw10⟩ := hw5
        obtain ⟨⟨t0, t1, t2, t3, t4⟩, _⟩ := five_facts hw10
        go_simp
       simp only [Act.put, aL]
       refine wpAnyH_ready (rs := [1, 6]) (by kernel_rfl) (by simp) ?_
       refine AllReadyH.cons rfl (fun K' hK => ?_) (AllReadyH.cons rfl (fun K' hK => ?_) (AllReadyH.nil))
       ·go_simp
        refine hK.out _ _ (by first | exact s9 | exact s8 | exact s7 | exact s6 | exact s0) (fun HS2 => ?_)
        clear hK K'
        try simp only [Act.put, aL]
        refine wpAnyH_ready (rs := [6]) (by kernel_rfl) (by simp) ?_
        refine AllReadyH.cons rfl (fun K' hK => ?_) (AllReadyH.nil)
        go_simp
        refine HREC0.out.mono ?_
        rintro e w6 ⟨⟨k6, B6, lb6, cb6, t6, v6⟩, rfl, hp6, hit6, hk6⟩
        have HK6 : Hid (Keeps [gm] X w6) := ((Keeps.refl [gm] X).drew).trans' hk6
        have HP6 := Lib.hid hp6
        have HIT6 := Lib.hid hit6
        clear hp6 hit6 hk6
        unfold FH.val tv
        dsimp only
        have HB6 : Hid (w6.heap[B]? = some (.cells #[.int .i64 K, .slice A j c, .string ⟨#[]⟩, .string ⟨#[]⟩] 26 (0, 0))) := blk_keep HSX.out.box HK6.out (by simp; omega)
        have HK7 : Hid (Keeps [] w6 (w6.alloc (.cells #[.int .i64 k6, .slice B6 lb6 cb6, .string ⟨t6.toArray⟩, .string ⟨v6.toArray⟩] 26))) := (Keeps.refl [] w6).alloc _
        have HB7 : Hid ((w6.alloc (.cells #[.int .i64 k6, .slice B6 lb6 cb6, .string ⟨t6.toArray⟩, .string ⟨v6.toArray⟩] 26)).heap[B]? = some (.cells #[.int .i64 K, .slice A j c, .string ⟨#[]⟩, .string ⟨#[]⟩] 26 (0, 0))) := blk_keep HB6.out HK7.out (by simp)
        have HROW : Hid ((w6.alloc (.cells #[.int .i64 k6, .slice B6 lb6 cb6, .string ⟨t6.toArray⟩, .string ⟨v6.toArray⟩] 26)).ownsRow (B + 1) 26 4 (.slice A j c) j (headsF hs)) := own_keep (own_keep HSX.out.row HK6.out (fun b hb hm => by have := (HSX.out.row.lt b hb).1; simp at hm; omega)) HK7.out (fun b hb hm => by cases hm)
        have HBS : Hid (B + 1 ≤ (w6.alloc (.cells #[.int .i64 k6, .slice B6 lb6 cb6, .string ⟨t6.toArray⟩, .string ⟨v6.toArray⟩] 26)).heap.size) := lt_of_heap HB7.out
        have s6 : SvR gx g9 (.func (.func 141) #[] #[.pointer (some ⟨gp, 0, none⟩), .pointer (some ⟨gx, 0, none⟩)]) (.cells #[.int .u8 (c' : Int), .int .u8 (n' : Int), .bool k', .slice A' la' ca', .slice B' lb' cb'] 40 (0, 0)) w6 := SvR.keep (X := X) s0 HK6.out (by simp; omega) (by simp; omega)
        have s7 : SvR gx g9 (.func (.func 141) #[] #[.pointer (some ⟨gp, 0, none⟩), .pointer (some ⟨gx, 0, none⟩)]) (.cells #[.int .u8 (c' : Int), .int .u8 (n' : Int), .bool k', .slice A' la' ca', .slice B' lb' cb'] 40 (0, 0)) (w6.alloc (.cells #[.int .i64 k6, .slice B6 lb6 cb6, .string ⟨t6.toArray⟩, .string ⟨v6.toArray⟩] 26)) := s6.keep HK7.out (by simp) (by simp)
        obtain ⟨⟨y0, y1, y2, y3⟩, yf0, yf1, yf2, yf3⟩ := four_facts8 HB6.out
        obtain ⟨⟨z0, z1, z2, z3⟩, zf0, zf1, zf2, zf3⟩ := four_facts8 HB7.out
        refine hK.out _ _ s6 (fun HS2 => ?_)
        clear hK K'
        try simp only [Act.put, aL]
        refine wpAnyH_ready (rs := [7]) (by kernel_rfl) (by simp) ?_
        refine AllReadyH.cons rfl (fun K' hK => ?_) (AllReadyH.nil)
        go_simp
        refine hK.out _ _ (by first | exact s9 | exact s8 | exact s7 | exact s6 | exact s0) (fun HS2 => ?_)
        clear hK K'
        try simp only [Act.put, aL]
        refine wpAnyH_ready (rs := [8]) (by kernel_rfl) (by simp) ?_
        refine AllReadyH.cons rfl (fun K' hK => ?_) (AllReadyH.nil)
        rw [if_pos (by kernel_rfl)]
        refine wp_append_opt (.tmp 27) (.tmp 33) 24 rfl (B + 1) 26 iu _ 4 64 Tryz.underlying24 hiu hzu0 hzu1 hzu2 rfl (by decide) (.slice A j c) j (headsF hs) rfl HROW.out (some ⟨w6.heap.size, 0, none⟩) 1 1 (FH.list ⟨k6, B6, lb6, cb6, t6, v6⟩) rfl rfl (src_one8 w6 ⟨k6, B6, lb6, cb6, t6, v6⟩ _) (by intro u hu; simp [FH.list, tv] at hu; rcases hu with rfl | rfl | rfl | rfl <;> rfl) (by unfold maxLen; omega) (by omega) HBS.out ?_
        intro v8 w8 ho8 hg8 hs8
        obtain ⟨A8, c8, hv8⟩ := own_slice ho8
        subst hv8
        have k8 : Keeps ((Value.slice A j c).ownBlock.toList) (w6.alloc (.cells #[.int .i64 k6, .slice B6 lb6 cb6, .string ⟨t6.toArray⟩, .string ⟨v6.toArray⟩] 26)) w8 := Keeps.of_grown hg8 (fun x hx => .inl (by rw [hx]; simp))
        have hvl : ∀ x ∈ (Value.slice A j c).ownBlock.toList, B + 1 ≤ x := fun x hx => (HSX.out.row.lt x (by simpa using hx)).1
        have hvl2 : ∀ x ∈ (Value.slice A j c).ownBlock.toList, x < g9 := fun x hx => by have h9 := (HS.out.row.lt x (by simpa using hx)).2; have := HG9.out; omega
        have HXN := Lib.hid (HSX.out.step hgmw hgnw HK6.out HP6.out HIT6.out HN1.out.1 HN1.out.2 HK7.out ho8 hg8 hs8)
        have HB8 : Hid (w8.heap[B]? = some (.cells #[.int .i64 K, .slice A j c, .string ⟨#[]⟩, .string ⟨#[]⟩] 26 (0, 0))) := blk_keep HB7.out k8 (fun hm => by have := hvl B hm; omega)
        have s8 : SvR gx g9 (.func (.func 141) #[] #[.pointer (some ⟨gp, 0, none⟩), .pointer (some ⟨gx, 0, none⟩)]) (.cells #[.int .u8 (c' : Int), .int .u8 (n' : Int), .bool k', .slice A' la' ca', .slice B' lb' cb'] 40 (0, 0)) w8 := s7.keep k8 (fun hm => by have := hvl gx hm; omega) (fun hm => by have := hvl2 g9 hm; omega)
        have s9 : SvR gx g9 (.func (.func 141) #[] #[.pointer (some ⟨gp, 0, none⟩), .pointer (some ⟨gx, 0, none⟩)]) (.cells #[.int .u8 (c' : Int), .int .u8 (n' : Int), .bool k', .slice A' la' ca', .slice B' lb' cb'] 40 (0, 0)) (w8.setCell ⟨B, 1, none⟩ (.slice A8 (j + 1) c8)) := s8.keep ((Keeps.refl [B] w8).setCell (.inl (by simp)) _) (by simp; omega) (by simp; omega)
        have HVB8 : Hid ((w8.setCell ⟨B, 1, none⟩ (.slice A8 (j + 1) c8)).heap[w.heap.size]? = some (.cells #[.int .u8 (ch : Int), .int .u8 (nh : Int), .bool kh, .slice Ah lah cah, .slice (some ⟨b9, o1, none⟩) lb cbh] 40 (0, 0))) := blk_keep (blk_keep (blk_keep (blk_keep HVX.out HK6.out (by simp; omega)) HK7.out (by simp)) k8 (fun hm => by have := hvl w.heap.size hm; omega)) ((Keeps.refl [B] w8).setCell (.inl (by simp)) _) (by simp; omega)
        clear ho8 hg8 hs8 k8 hvl hvl2
        obtain ⟨⟨x0, x1, x2, x3⟩, xf0, xf1, xf2, xf3⟩ := four_facts8 HB8.out
        refine hK.out _ _ s8 (fun HS2 => ?_)
        clear hK K'
        simp only [Act.put, aL]
        refine wpAnyH_take (i := 9) (v := .pointer (some ⟨B, 1, none⟩)) rfl (by kernel_rfl) (by kernel_rfl) (by kernel_rfl) (fun _ _ _ h => h) (Or.inl ⟨by kernel_rfl, ?_⟩) (by first | exact s9 | exact s8 | exact s7 | exact s6 | exact s0) ?_
        ·intro w5 hw5
         obtain ⟨hw9, hw10⟩ := hw5
         obtain ⟨⟨t0, t1, t2, t3, t4⟩, _⟩ := five_facts hw10
         go_simp
        simp only [Act.put, aL]
        refine wpAnyH_ready (rs := [10]) (by kernel_rfl) (by simp) ?_
        refine AllReadyH.cons rfl (fun K' hK => ?_) (AllReadyH.nil)
        go_simp
        refine hK.out _ _ (by first | exact s9 | exact s8 | exact s7 | exact s6 | exact s0) (fun HS2 => ?_)
        clear hK K'
        try simp only [Act.put, aL]
        refine wpAnyH_done (by kernel_rfl) ?_ _
        clear x0 x1 x2 x3 xf0 xf1 xf2 xf3 y0 y1 y2 y3 yf0 yf1 yf2 yf3 z0 z1 z2 z3 zf0 zf1 zf2 zf3 s0 s6 s7 s8 s9 q0 q1 q2 q3 p0 p1 p2 p3
        go_wp2_with fail
        go_roundw
        case rel => exact ⟨j + 1, A8, c8, _, _, n1, (by go_num), by omega, HCNT2.out, HXN.out, HVB8.out⟩
        case measure => simp [intOf]; omega
       ·go_simp
        refine HREC0.out.mono ?_
        rintro e w6 ⟨⟨k6, B6, lb6, cb6, t6, v6⟩, rfl, hp6, hit6, hk6⟩
        have HK6 : Hid (Keeps [gm] X w6) := ((Keeps.refl [gm] X).drew).trans' hk6
        have HP6 := Lib.hid hp6
        have HIT6 := Lib.hid hit6
        clear hp6 hit6 hk6
        unfold FH.val tv
        dsimp only
        have HB6 : Hid (w6.heap[B]? = some (.cells #[.int .i64 K, .slice A j c, .string ⟨#[]⟩, .string ⟨#[]⟩] 26 (0, 0))) := blk_keep HSX.out.box HK6.out (by simp; omega)
        have HK7 : Hid (Keeps [] w6 (w6.alloc (.cells #[.int .i64 k6, .slice B6 lb6 cb6, .string ⟨t6.toArray⟩, .string ⟨v6.toArray⟩] 26))) := (Keeps.refl [] w6).alloc _
        have HB7 : Hid ((w6.alloc (.cells #[.int .i64 k6, .slice B6 lb6 cb6, .string ⟨t6.toArray⟩, .string ⟨v6.toArray⟩] 26)).heap[B]? = some (.cells #[.int .i64 K, .slice A j c, .string ⟨#[]⟩, .string ⟨#[]⟩] 26 (0, 0))) := blk_keep HB6.out HK7.out (by simp)
        have HROW : Hid ((w6.alloc (.cells #[.int .i64 k6, .slice B6 lb6 cb6, .string ⟨t6.toArray⟩, .string ⟨v6.toArray⟩] 26)).ownsRow (B + 1) 26 4 (.slice A j c) j (headsF hs)) := own_keep (own_keep HSX.out.row HK6.out (fun b hb hm => by have := (HSX.out.row.lt b hb).1; simp at hm; omega)) HK7.out (fun b hb hm => by cases hm)
        have HBS : Hid (B + 1 ≤ (w6.alloc (.cells #[.int .i64 k6, .slice B6 lb6 cb6, .string ⟨t6.toArray⟩, .string ⟨v6.toArray⟩] 26)).heap.size) := lt_of_heap HB7.out
        have s6 : SvR gx g9 (.func (.func 141) #[] #[.pointer (some ⟨gp, 0, none⟩), .pointer (some ⟨gx, 0, none⟩)]) (.cells #[.int .u8 (c' : Int), .int .u8 (n' : Int), .bool k', .slice A' la' ca', .slice B' lb' cb'] 40 (0, 0)) w6 := SvR.keep (X := X) s0 HK6.out (by simp; omega) (by simp; omega)
        have s7 : SvR gx g9 (.func (.func 141) #[] #[.pointer (some ⟨gp, 0, none⟩), .pointer (some ⟨gx, 0, none⟩)]) (.cells #[.int .u8 (c' : Int), .int .u8 (n' : Int), .bool k', .slice A' la' ca', .slice B' lb' cb'] 40 (0, 0)) (w6.alloc (.cells #[.int .i64 k6, .slice B6 lb6 cb6, .string ⟨t6.toArray⟩, .string ⟨v6.toArray⟩] 26)) := s6.keep HK7.out (by simp) (by simp)
        obtain ⟨⟨y0, y1, y2, y3⟩, yf0, yf1, yf2, yf3⟩ := four_facts8 HB6.out
        obtain ⟨⟨z0, z1, z2, z3⟩, zf0, zf1, zf2, zf3⟩ := four_facts8 HB7.out
        refine hK.out _ _ s6 (fun HS2 => ?_)
        clear hK K'
        try simp only [Act.put, aL]
        refine wpAnyH_ready (rs := [1, 7]) (by kernel_rfl) (by simp) ?_
        refine AllReadyH.cons rfl (fun K' hK => ?_) (AllReadyH.cons rfl (fun K' hK => ?_) (AllReadyH.nil))
        ·go_simp
         refine hK.out _ _ (by first | exact s9 | exact s8 | exact s7 | exact s6 | exact s0) (fun HS2 => ?_)
         clear hK K'
         try simp only [Act.put, aL]
         refine wpAnyH_ready (rs := [7]) (by kernel_rfl) (by simp) ?_
         refine AllReadyH.cons rfl (fun K' hK => ?_) (AllReadyH.nil)
         go_simp
         refine hK.out _ _ (by first | exact s9 | exact s8 | exact s7 | exact s6 | exact s0) (fun HS2 => ?_)
         clear hK K'
         try simp only [Act.put, aL]
         refine wpAnyH_ready (rs := [8]) (by kernel_rfl) (by simp) ?_
         refine AllReadyH.cons rfl (fun K' hK => ?_) (AllReadyH.nil)
         rw [if_pos (by kernel_rfl)]
         refine wp_append_opt (.tmp 27) (.tmp 33) 24 rfl (B + 1) 26 iu _ 4 64 Tryz.underlying24 hiu hzu0 hzu1 hzu2 rfl (by decide) (.slice A j c) j (headsF hs) rfl HROW.out (some ⟨w6.heap.size, 0, none⟩) 1 1 (FH.list ⟨k6, B6, lb6, cb6, t6, v6⟩) rfl rfl (src_one8 w6 ⟨k6, B6, lb6, cb6, t6, v6⟩ _) (by intro u hu; simp [FH.list, tv] at hu; rcases hu with rfl | rfl | rfl | rfl <;> rfl) (by unfold maxLen; omega) (by omega) HBS.out ?_
         intro v8 w8 ho8 hg8 hs8
         obtain ⟨A8, c8, hv8⟩ := own_slice ho8
         subst hv8
         have k8 : Keeps ((Value.slice A j c).ownBlock.toList) (w6.alloc (.cells #[.int .i64 k6, .slice B6 lb6 cb6, .string ⟨t6.toArray⟩, .string ⟨v6.toArray⟩] 26)) w8 := Keeps.of_grown hg8 (fun x hx => .inl (by rw [hx]; simp))
         have hvl : ∀ x ∈ (Value.slice A j c).ownBlock.toList, B + 1 ≤ x := fun x hx => (HSX.out.row.lt x (by simpa using hx)).1
         have hvl2 : ∀ x ∈ (Value.slice A j c).ownBlock.toList, x < g9 := fun x hx => by have h9 := (HS.out.row.lt x (by simpa using hx)).2; have := HG9.out; omega
         have HXN := Lib.hid (HSX.out.step hgmw hgnw HK6.out HP6.out HIT6.out HN1.out.1 HN1.out.2 HK7.out ho8 hg8 hs8)
         have HB8 : Hid (w8.heap[B]? = some (.cells #[.int .i64 K, .slice A j c, .string ⟨#[]⟩, .string ⟨#[]⟩] 26 (0, 0))) := blk_keep HB7.out k8 (fun hm => by have := hvl B hm; omega)
         have s8 : SvR gx g9 (.func (.func 141) #[] #[.pointer (some ⟨gp, 0, none⟩), .pointer (some ⟨gx, 0, none⟩)]) (.cells #[.int .u8 (c' : Int), .int .u8 (n' : Int), .bool k', .slice A' la' ca', .slice B' lb' cb'] 40 (0, 0)) w8 := s7.keep k8 (fun hm => by have := hvl gx hm; omega) (fun hm => by have := hvl2 g9 hm; omega)
         have s9 : SvR gx g9 (.func (.func 141) #[] #[.pointer (some ⟨gp, 0, none⟩), .pointer (some ⟨gx, 0, none⟩)]) (.cells #[.int .u8 (c' : Int), .int .u8 (n' : Int), .bool k', .slice A' la' ca', .slice B' lb' cb'] 40 (0, 0)) (w8.setCell ⟨B, 1, none⟩ (.slice A8 (j + 1) c8)) := s8.keep ((Keeps.refl [B] w8).setCell (.inl (by simp)) _) (by simp; omega) (by simp; omega)
         have HVB8 : Hid ((w8.setCell ⟨B, 1, none⟩ (.slice A8 (j + 1) c8)).heap[w.heap.size]? = some (.cells #[.int .u8 (ch : Int), .int .u8 (nh : Int), .bool kh, .slice Ah lah cah, .slice (some ⟨b9, o1, none⟩) lb cbh] 40 (0, 0))) := blk_keep (blk_keep (blk_keep (blk_keep HVX.out HK6.out (by simp; omega)) HK7.out (by simp)) k8 (fun hm => by have := hvl w.heap.size hm; omega)) ((Keeps.refl [B] w8).setCell (.inl (by simp)) _) (by simp; omega)
         clear ho8 hg8 hs8 k8 hvl hvl2
         obtain ⟨⟨x0, x1, x2, x3⟩, xf0, xf1, xf2, xf3⟩ := four_facts8 HB8.out
         refine hK.out _ _ s8 (fun HS2 => ?_)
         clear hK K'
         simp only [Act.put, aL]
         refine wpAnyH_take (i := 9) (v := .pointer (some ⟨B, 1, none⟩)) rfl (by kernel_rfl) (by kernel_rfl) (by kernel_rfl) (fun _ _ _ h => h) (Or.inl ⟨by kernel_rfl, ?_⟩) (by first | exact s9 | exact s8 | exact s7 | exact s6 | exact s0) ?_
         ·intro w5 hw5
          obtain ⟨hw9, hw10⟩ := hw5
          obtain ⟨⟨t0, t1, t2, t3, t4⟩, _⟩ := five_facts hw10
          go_simp
         simp only [Act.put, aL]
         refine wpAnyH_ready (rs := [10]) (by kernel_rfl) (by simp) ?_
         refine AllReadyH.cons rfl (fun K' hK => ?_) (AllReadyH.nil)
         go_simp
         refine hK.out _ _ (by first | exact s9 | exact s8 | exact s7 | exact s6 | exact s0) (fun HS2 => ?_)
         clear hK K'
         try simp only [Act.put, aL]
         refine wpAnyH_done (by kernel_rfl) ?_ _
         clear x0 x1 x2 x3 xf0 xf1 xf2 xf3 y0 y1 y2 y3 yf0 yf1 yf2 yf3 z0 z1 z2 z3 zf0 zf1 zf2 zf3 s0 s6 s7 s8 s9 q0 q1 q2 q3 p0 p1 p2 p3
         go_wp2_with fail
         go_roundw
         case rel => exact ⟨j + 1, A8, c8, _, _, n1, (by go_num), by omega, HCNT2.out, HXN.out, HVB8.out⟩
         case measure => simp [intOf]; omega
        ·go_simp
         refine hK.out _ _ (by first | exact s9 | exact s8 | exact s7 | exact s6 | exact s0) (fun HS2 => ?_)
         clear hK K'
         try simp only [Act.put, aL]
         refine wpAnyH_ready (rs := [1]) (by kernel_rfl) (by simp) ?_
         refine AllReadyH.cons rfl (fun K' hK => ?_) (AllReadyH.nil)
         go_simp
         refine hK.out _ _ (by first | exact s9 | exact s8 | exact s7 | exact s6 | exact s0) (fun HS2 => ?_)
         clear hK K'
         try simp only [Act.put, aL]
         refine wpAnyH_ready (rs := [8]) (by kernel_rfl) (by simp) ?_
         refine AllReadyH.cons rfl (fun K' hK => ?_) (AllReadyH.nil)
         rw [if_pos (by kernel_rfl)]
         refine wp_append_opt (.tmp 27) (.tmp 33) 24 rfl (B + 1) 26 iu _ 4 64 Tryz.underlying24 hiu hzu0 hzu1 hzu2 rfl (by decide) (.slice A j c) j (headsF hs) rfl HROW.out (some ⟨w6.heap.size, 0, none⟩) 1 1 (FH.list ⟨k6, B6, lb6, cb6, t6, v6⟩) rfl rfl (src_one8 w6 ⟨k6, B6, lb6, cb6, t6, v6⟩ _) (by intro u hu; simp [FH.list, tv] at hu; rcases hu with rfl | rfl | rfl | rfl <;> rfl) (by unfold maxLen; omega) (by omega) HBS.out ?_
         intro v8 w8 ho8 hg8 hs8
         obtain ⟨A8, c8, hv8⟩ := own_slice ho8
         subst hv8
         have k8 : Keeps ((Value.slice A j c).ownBlock.toList) (w6.alloc (.cells #[.int .i64 k6, .slice B6 lb6 cb6, .string ⟨t6.toArray⟩, .string ⟨v6.toArray⟩] 26)) w8 := Keeps.of_grown hg8 (fun x hx => .inl (by rw [hx]; simp))
         have hvl : ∀ x ∈ (Value.slice A j c).ownBlock.toList, B + 1 ≤ x := fun x hx => (HSX.out.row.lt x (by simpa using hx)).1
         have hvl2 : ∀ x ∈ (Value.slice A j c).ownBlock.toList, x < g9 := fun x hx => by have h9 := (HS.out.row.lt x (by simpa using hx)).2; have := HG9.out; omega
         have HXN := Lib.hid (HSX.out.step hgmw hgnw HK6.out HP6.out HIT6.out HN1.out.1 HN1.out.2 HK7.out ho8 hg8 hs8)
         have HB8 : Hid (w8.heap[B]? = some (.cells #[.int .i64 K, .slice A j c, .string ⟨#[]⟩, .string ⟨#[]⟩] 26 (0, 0))) := blk_keep HB7.out k8 (fun hm => by have := hvl B hm; omega)
         have s8 : SvR gx g9 (.func (.func 141) #[] #[.pointer (some ⟨gp, 0, none⟩), .pointer (some ⟨gx, 0, none⟩)]) (.cells #[.int .u8 (c' : Int), .int .u8 (n' : Int), .bool k', .slice A' la' ca', .slice B' lb' cb'] 40 (0, 0)) w8 := s7.keep k8 (fun hm => by have := hvl gx hm; omega) (fun hm => by have := hvl2 g9 hm; omega)
         have s9 : SvR gx g9 (.func (.func 141) #[] #[.pointer (some ⟨gp, 0, none⟩), .pointer (some ⟨gx, 0, none⟩)]) (.cells #[.int .u8 (c' : Int), .int .u8 (n' : Int), .bool k', .slice A' la' ca', .slice B' lb' cb'] 40 (0, 0)) (w8.setCell ⟨B, 1, none⟩ (.slice A8 (j + 1) c8)) := s8.keep ((Keeps.refl [B] w8).setCell (.inl (by simp)) _) (by simp; omega) (by simp; omega)
         have HVB8 : Hid ((w8.setCell ⟨B, 1, none⟩ (.slice A8 (j + 1) c8)).heap[w.heap.size]? = some (.cells #[.int .u8 (ch : Int), .int .u8 (nh : Int), .bool kh, .slice Ah lah cah, .slice (some ⟨b9, o1, none⟩) lb cbh] 40 (0, 0))) := blk_keep (blk_keep (blk_keep (blk_keep HVX.out HK6.out (by simp; omega)) HK7.out (by simp)) k8 (fun hm => by have := hvl w.heap.size hm; omega)) ((Keeps.refl [B] w8).setCell (.inl (by simp)) _) (by simp; omega)
         clear ho8 hg8 hs8 k8 hvl hvl2
         obtain ⟨⟨x0, x1, x2, x3⟩, xf0, xf1, xf2, xf3⟩ := four_facts8 HB8.out
         refine hK.out _ _ s8 (fun HS2 => ?_)
         clear hK K'
         simp only [Act.put, aL]
         refine wpAnyH_take (i := 9) (v := .pointer (some ⟨B, 1, none⟩)) rfl (by kernel_rfl) (by kernel_rfl) (by kernel_rfl) (fun _ _ _ h => h) (Or.inl ⟨by kernel_rfl, ?_⟩) (by first | exact s9 | exact s8 | exact s7 | exact s6 | exact s0) ?_
         ·intro w5 hw5
          obtain ⟨hw9, hw10⟩ := hw5
          obtain ⟨⟨t0, t1, t2, t3, t4⟩, _⟩ := five_facts hw10
          go_simp
         simp only [Act.put, aL]
         refine wpAnyH_ready (rs := [10]) (by kernel_rfl) (by simp) ?_
         refine AllReadyH.cons rfl (fun K' hK => ?_) (AllReadyH.nil)
         go_simp
         refine hK.out _ _ (by first | exact s9 | exact s8 | exact s7 | exact s6 | exact s0) (fun HS2 => ?_)
         clear hK K'
         try simp only [Act.put, aL]
         refine wpAnyH_done (by kernel_rfl) ?_ _
         clear x0 x1 x2 x3 xf0 xf1 xf2 xf3 y0 y1 y2 y3 yf0 yf1 yf2 yf3 z0 z1 z2 z3 zf0 zf1 zf2 zf3 s0 s6 s7 s8 s9 q0 q1 q2 q3 p0 p1 p2 p3
         go_wp2_with fail
         go_roundw
         case rel => exact ⟨j + 1, A8, c8, _, _, n1, (by go_num), by omega, HCNT2.out, HXN.out, HVB8.out⟩
         case measure => simp [intOf]; omega
     ·obtain rfl : j = lb := by omega
      have htl : l.take j = l := List.take_of_length_le (by rw [HL.out]; exact Nat.le_refl _)
      have HYES : Hid (rvF d m (.mk ch nh kh b0 l) = some (.mk K fs [] [], n)) := by
       have h9 := HCNT.out
       rw [htl] at h9
       show _ = _
       rw [HMANY.out, h9]
      obtain ⟨⟨r0, r1, r2, r3⟩, r4, r5, r6, r7⟩ := four_facts8 HS.out.res
      clear htl
      go_wp2_with fail
      have HR6' := heap_setCell_same _ (w.heap.size + 1) 0 _ _ (.int .i64 K) HS.out.res
      have HR7 := heap_setCell_same _ (w.heap.size + 1) 1 _ _ (.slice A j c) HR6'
      have HR8' := heap_setCell_same _ (w.heap.size + 1) 2 _ _ (.string ⟨#[]⟩) HR7
      have HR10 := heap_setCell_same _ (w.heap.size + 1) 3 _ _ (.string ⟨#[]⟩) HR8'
      refine bodyPost_ret (results_cell_row rfl _ _ (w.heap.size + 1) _ #[.int .i64 K, .slice A j c, .string ⟨#[]⟩, .string ⟨#[]⟩] (0, 0) _ rfl HR10 Tryz.underlying26 rfl (by kernel_rfl)) rfl ?_
      have k9 : Keeps [w.heap.size + 1] wr ((((wr.setCell ⟨w.heap.size + 1, 0, none⟩ (.int .i64 K)).setCell ⟨w.heap.size + 1, 1, none⟩ (.slice A j c)).setCell ⟨w.heap.size + 1, 2, none⟩ (.string ⟨#[]⟩)).setCell ⟨w.heap.size + 1, 3, none⟩ (.string ⟨#[]⟩)) := ((((Keeps.refl [w.heap.size + 1] wr).setCell (.inl (by simp)) _).setCell (.inl (by simp)) _).setCell (.inl (by simp)) _).setCell (.inl (by simp)) _
      exact ⟨.inl ⟨_, n, ⟨K, A, j, c, [], []⟩, HYES.out, rfl, HS.out.pass.keep k9 (by simp; omega) (by simp; omega), HS.out.fin k9 HKI.out (by simp) (by simp)⟩, HS.out.keep.trans k9 (fun x hx => .inr (by rw [List.mem_singleton.1 hx]; omega))⟩
end Go.Proofs.YtbfebljahjmjfaaGreatDoor
