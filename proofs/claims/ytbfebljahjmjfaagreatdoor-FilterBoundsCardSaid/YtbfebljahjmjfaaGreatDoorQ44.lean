import Derived.Test.YtbfebljahjmjfaaGreatDoorQ38
import Derived.Test.YtbfebljahjmjfaaGreatDoorQ43
import Derived.BigQuiet
import Derived.LoopN
import Derived.Deep.CutBlock
/- filter: the document's Value, of filters of many and of having one; walked. -/
namespace Go.Proofs.YtbfebljahjmjfaaGreatDoor
open Go.RowKit Go.Shelf
set_option linter.unusedVariables false
set_option linter.unusedSimpArgs false
set_option maxRecDepth 100000

/-- What a round finds: the value under way in its box, those of it in a row of their own. -/
structure DvS (w wr : World) (B : Nat) (nu : Int) (A : Option Addr) (j c : Nat) (hs : List BH) (l : List BV) : Prop where
 box : wr.heap[B]? = some (.cells #[.int .u8 2, .int .u8 nu, .bool true, .slice none 0 0, .slice A j c] 40 (0, 0))
 res : wr.heap[w.heap.size + 1]? = some ber0
 row : wr.ownsRow (B + 1) 40 5 (.slice A j c) j (headsL hs)
 hsl : hs.length = j
 lsl : l.length = j
 items : ∀ (E : List Nat) X, (∀ x ∈ E, x < B + 1 ∨ (Value.slice A j c).ownBlock = some x) → Keeps E wr X → ∀ (i : Nat) (t : BV) (h : BH), l[i]? = some t → hs[i]? = some h → BerAt X t h
 keep : Keeps [] w wr
 lo : w.heap.size + 1 < B
theorem DvS.grow {w wr X : World} {B : Nat} {nu : Int} {A : Option Addr} {j c : Nat} {hs : List BH} {l : List BV} (H : DvS w wr B nu A j c hs l) (hX : Keeps [] wr X) : DvS w X B nu A j c hs l :=
 ⟨blk_keep H.box hX (by simp), blk_keep H.res hX (by simp), own_keep H.row hX (fun b hb hm => by cases hm), H.hsl, H.lsl, fun E Y hE hk => H.items E Y hE ((hX.mono (cs := E) (by simp)).trans hk (fun x hx => .inl hx)), H.keep.trans' hX, H.lo⟩
theorem DvS.new {w wr : World} {B : Nat} {nu : Int} (hb : wr.heap[B]? = some (.cells #[.int .u8 2, .int .u8 nu, .bool true, .slice none 0 0, .slice none 0 0] 40 (0, 0))) (hr : wr.heap[w.heap.size + 1]? = some ber0) (hk : Keeps [] w wr) (hlo : w.heap.size + 1 < B) : DvS w wr B nu none 0 0 [] [] :=
 ⟨hb, hr, World.ownsRow_nil _ _ _ _, rfl, rfl, fun E X hE hX i t h ht => by simp at ht, hk, hlo⟩
theorem DvS.step {w wr w6 w7 w8 : World} {B : Nat} {nu : Int} {A A8 : Option Addr} {j c c8 : Nat} {hs : List BH} {l : List BV} (H : DvS w wr B nu A j c hs l)
  {t : BV} {h : BH} (k6 : Keeps [] wr w6) (hp : ∀ (E : List Nat) X, (∀ x ∈ E, x < wr.heap.size) → Keeps E w6 X → BerAt X t h) (k7 : Keeps [] w6 w7)
  (ho : w8.ownsRow (B + 1) 40 5 (.slice A8 (j + 1) c8) (j + 1) (headsL hs ++ h.list)) (hg : w7.grownBy w8 (Value.slice A j c).ownBlock) (hs8 : (Value.slice A8 (j + 1) c8).ownBlock = (Value.slice A j c).ownBlock ∨ (Value.slice A8 (j + 1) c8).ownBlock = some w7.heap.size) :
  DvS w (w8.setCell ⟨B, 4, none⟩ (.slice A8 (j + 1) c8)) B nu A8 (j + 1) c8 (hs ++ [h]) (l ++ [t]) := by
 have Hbox := H.box
 have Hrow := H.row
 have Hit := H.items
 have hz6 := k6.size
 have hz7 := k7.size
 have hlo := H.lo
 have hBr : B < wr.heap.size := lt_of_heap Hbox
 have k8 : Keeps (Value.slice A j c).ownBlock.toList w7 w8 := Keeps.of_grown hg (fun x hx => .inl (by rw [hx]; simp))
 have hz8 := k8.size
 have k9 : Keeps [B] w8 (w8.setCell ⟨B, 4, none⟩ (.slice A8 (j + 1) c8)) := (Keeps.refl [B] w8).setCell (.inl (by simp)) _
 have hvl : ∀ x ∈ (Value.slice A j c).ownBlock.toList, B + 1 ≤ x ∧ x < wr.heap.size := fun x hx => Hrow.lt x (by simpa using hx)
 have k68 : Keeps (Value.slice A j c).ownBlock.toList w6 w8 := (k7.mono (by simp)).trans k8 (fun x hx => .inl hx)
 have k69 : Keeps (B :: (Value.slice A j c).ownBlock.toList) w6 (w8.setCell ⟨B, 4, none⟩ (.slice A8 (j + 1) c8)) := (k68.mono (fun x hx => .inl (List.mem_cons_of_mem _ hx))).trans k9 (fun x hx => .inl (by simp at hx; simp [hx]))
 have kr9 : Keeps (B :: (Value.slice A j c).ownBlock.toList) wr (w8.setCell ⟨B, 4, none⟩ (.slice A8 (j + 1) c8)) := (k6.mono (by simp)).trans k69 (fun x hx => .inl hx)
 have hnb : ∀ x, x ≤ B → x ∉ (Value.slice A j c).ownBlock.toList := fun x hx hm => by have := hvl x hm; omega
 have hnb2 : ∀ x, x < B → x ∉ B :: (Value.slice A j c).ownBlock.toList := fun x hx hm => by
  rcases List.mem_cons.1 hm with hm | hm
  ·omega
  ·exact hnb x (by omega) hm
 have hbox8 : w8.heap[B]? = some (.cells #[.int .u8 2, .int .u8 nu, .bool true, .slice none 0 0, .slice A j c] 40 (0, 0)) := blk_keep (blk_keep Hbox k6 (by simp)) k68 (hnb B (Nat.le_refl _))
 refine ⟨heap_setCell_same w8 B 4 _ _ _ hbox8, blk_keep (blk_keep H.res k6 (by simp)) k69 (hnb2 _ (by omega)), ?_, by simp [H.hsl], by simp [H.lsl], fun E X hE hk i t' h' ht' hh' => ?_, ?_, hlo⟩
 ·rw [headsL_snoc]
  exact own_keep ho k9 (fun b hb hm => by have := (ho.lt b hb).1; simp at hm; omega)
 ·have hcase : ∀ x ∈ E, x < wr.heap.size ∨ w7.heap.size ≤ x := fun x hx => by
   rcases hE x hx with h9 | h9
   ·exact .inl (by omega)
   ·rcases hs8 with h10 | h10
    ·rw [h10] at h9
     exact .inl (hvl x (by rw [h9]; simp)).2
    ·rw [h10] at h9
     injection h9 with h9
     exact .inr (by omega)
  have hold : ∀ x ∈ E, x < wr.heap.size → x < B + 1 ∨ (Value.slice A j c).ownBlock = some x := fun x hx hlt => by
   rcases hE x hx with h9 | h9
   ·exact .inl h9
   ·rcases hs8 with h10 | h10
    ·rw [h10] at h9; exact .inr h9
    ·rw [h10] at h9
     injection h9 with h9
     omega
  by_cases hj : i < j
  ·rw [List.getElem?_append_left (by rw [H.lsl]; exact hj)] at ht'
   rw [List.getElem?_append_left (by rw [H.hsl]; exact hj)] at hh'
   have kX : Keeps ((B :: (Value.slice A j c).ownBlock.toList) ++ E.filter (fun x => decide (x < wr.heap.size))) wr X := by
    have k10 : Keeps ((B :: (Value.slice A j c).ownBlock.toList) ++ E.filter (fun x => decide (x < wr.heap.size))) wr _ := kr9.mono (fun x hx => .inl (List.mem_append_left _ hx))
    refine k10.trans hk (fun x hx => ?_)
    rcases hcase x hx with h9 | h9
    ·exact .inl (List.mem_append_right _ (List.mem_filter.2 ⟨hx, by simpa using h9⟩))
    ·exact .inr (by omega)
   refine Hit _ X (fun x hx => ?_) kX i t' h' ht' hh'
   rcases List.mem_append.1 hx with hx | hx
   ·rcases List.mem_cons.1 hx with hx | hx
    ·exact .inl (by omega)
    ·exact .inr (by simpa using hx)
   ·obtain ⟨h9, h10⟩ := List.mem_filter.1 hx
    exact hold x h9 (by simpa using h10)
  ·have hja : i = j := by
    have := (List.getElem?_eq_some_iff.1 ht').1
    simp [H.lsl] at this
    omega
   subst hja
   rw [List.getElem?_append_right (by rw [H.lsl]; exact Nat.le_refl _), H.lsl] at ht'
   rw [List.getElem?_append_right (by rw [H.hsl]; exact Nat.le_refl _), H.hsl] at hh'
   simp at ht' hh'
   subst ht' hh'
   have kX : Keeps ((B :: (Value.slice A i c).ownBlock.toList) ++ E.filter (fun x => decide (x < wr.heap.size))) w6 X := by
    have k10 : Keeps ((B :: (Value.slice A i c).ownBlock.toList) ++ E.filter (fun x => decide (x < wr.heap.size))) w6 _ := k69.mono (fun x hx => .inl (List.mem_append_left _ hx))
    refine k10.trans hk (fun x hx => ?_)
    rcases hcase x hx with h9 | h9
    ·exact .inl (List.mem_append_right _ (List.mem_filter.2 ⟨hx, by simpa using h9⟩))
    ·exact .inr (by show w6.heap.size ≤ x; omega)
   refine hp _ X (fun x hx => ?_) kX
   rcases List.mem_append.1 hx with hx | hx
   ·rcases List.mem_cons.1 hx with hx | hx
    ·omega
    ·have := (hvl x hx).2; omega
   ·have : x < wr.heap.size := by simpa using (List.mem_filter.1 hx).2
    omega
 ·refine H.keep.trans kr9 (fun x hx => ?_)
  rcases List.mem_cons.1 hx with hx | hx
  ·exact .inr (by omega)
  ·exact .inr (by have := (hvl x hx).1; omega)
theorem DvS.fin {w wr : World} {B : Nat} {nu : Nat} {A : Option Addr} {j c : Nat} {hs : List BH} {l : List BV} (H : DvS w wr B (nu : Int) A j c hs l) {w3 : World} (k3 : Keeps [w.heap.size + 1] wr w3) (hnu : nu < 256) :
  ∀ (E : List Nat) X, (∀ x ∈ E, x < w.heap.size) → Keeps E w3 X → BerAt X (.mk 2 nu true [] l) ⟨2, nu, true, none, 0, 0, A, j, c⟩ := fun E X hE hX => by
 have hlo := H.lo
 have kX : Keeps ((w.heap.size + 1) :: E) wr X := (k3.mono (cs := (w.heap.size + 1) :: E) (fun x hx => .inl (by simp at hx; simp [hx]))).trans hX (fun x hx => .inl (by simp [hx]))
 have hrow := own_keep H.row kX (fun b hb hm => by
  have h9 := (H.row.lt b hb).1
  rcases List.mem_cons.1 hm with hm | hm
  ·omega
  ·have := hE b hm; omega)
 have hcap := cap_of_own hrow
 refine ⟨rfl, rfl, rfl, by omega, hnu, rfl, BytesAt.none _, H.lsl, hcap.1, hcap.2, items_own hrow H.hsl H.lsl (fun i t' h' ht' hh' => H.items ((w.heap.size + 1) :: E) X (fun x hx => ?_) kX i t' h' ht' hh')⟩
 rcases List.mem_cons.1 hx with hx | hx
 ·exact .inl (by omega)
 ·exact .inl (by have := hE x hx; omega)
/-- What a load in the midst may find: the filter's own cells, and the item's. -/
def SvV (gf gb o : Nat) (us bs : List Value) (X : World) : Prop := (X.cell? ⟨gf, 0, none⟩ = some (us.getD 0 undef) ∧ X.cell? ⟨gf, 1, none⟩ = some (us.getD 1 undef) ∧ X.cell? ⟨gf, 2, none⟩ = some (us.getD 2 undef) ∧ X.cell? ⟨gf, 3, none⟩ = some (us.getD 3 undef)) ∧ (X.cell? ⟨gb, o, none⟩ = some (bs.getD 0 undef) ∧ X.cell? ⟨gb, o + 1, none⟩ = some (bs.getD 1 undef) ∧ X.cell? ⟨gb, o + 2, none⟩ = some (bs.getD 2 undef) ∧ X.cell? ⟨gb, o + 3, none⟩ = some (bs.getD 3 undef))
theorem SvV.keep {gf gb o : Nat} {us bs : List Value} {X Y : World} {ks : List Nat} (h : SvV gf gb o us bs X) (hk : Keeps ks X Y) (h1 : gf ∉ ks) (h2 : gb ∉ ks) : SvV gf gb o us bs Y :=
 ⟨⟨(hk.cell (lt_of_cell h.1.1) h1).trans h.1.1, (hk.cell (lt_of_cell h.1.2.1) h1).trans h.1.2.1, (hk.cell (lt_of_cell h.1.2.2.1) h1).trans h.1.2.2.1, (hk.cell (lt_of_cell h.1.2.2.2) h1).trans h.1.2.2.2⟩, ⟨(hk.cell (lt_of_cell h.2.1) h2).trans h.2.1, (hk.cell (lt_of_cell h.2.2.1) h2).trans h.2.2.1, (hk.cell (lt_of_cell h.2.2.2.1) h2).trans h.2.2.2.1, (hk.cell (lt_of_cell h.2.2.2.2) h2).trans h.2.2.2.2⟩⟩
theorem SvV.drew {gf gb o : Nat} {us bs : List Value} {X : World} (h : SvV gf gb o us bs X) : SvV gf gb o us bs X.drew := h
theorem vallow_take {l : List FV} {j : Nat} {x : FV} (h : l[j]? = some x) : valFL (lowFL (l.take (j + 1))) = valFL (lowFL (l.take j)) ++ [valF (lowF x)] := by
 rw [List.take_add_one, h, lowFL_map, lowFL_map, valFL_map, valFL_map]
 simp
mutual
/-- How many filters a filter is. -/
def szV : FV → Nat
 | .mk _ l _ _ => 1 + szVL l
def szVL : List FV → Nat
 | [] => 0
 | t :: r => szV t + szVL r
end
theorem szV_mem : ∀ (l : List FV) (x : FV), x ∈ l → szV x ≤ szVL l
 | t :: r, x, h => by
  unfold szVL
  rcases List.mem_cons.1 h with h | h
  ·subst h; omega
  ·have := szV_mem r x h; omega
theorem szVL_len : ∀ l : List FV, l.length ≤ szVL l
 | [] => Nat.zero_le _
 | t :: r => by
  have := szVL_len r
  unfold szVL
  have h2 : 1 ≤ szV t := by
   obtain ⟨k, l, s, v⟩ := t
   unfold szV
   omega
  simp only [List.length_cons]
  omega
set_option maxHeartbeats 8000000 in
theorem rtextv_is (s : Txt) (cl nu : Nat) (w : World) (hs : s.length ≤ 9223372036854775807) (hc : cl < 256) (hn : nu < 256) : Calls Tryz.prog 39 #[tv s, .int .u8 (cl : Int), .int .u8 (nu : Int)] w (VwQ (.mk cl nu false s []) w) := by
 obtain ⟨C, O, hcv, hb⟩ := conv8 s hs
 have HBY := Lib.hid hb
 clear hb
 obtain ⟨W0, hW0⟩ : ∃ W0, w.alloc ber0 = W0 := ⟨_, rfl⟩
 have HK0 : Hid (Keeps [] w W0) := by rw [← hW0]; exact (Keeps.refl [] w).alloc _
 have HZ0 : Hid (W0.heap.size = w.heap.size + 1) := by rw [← hW0]; simp [Hid]
 have hr0 : W0.heap[w.heap.size]? = some ber0 := by rw [← hW0]; exact heap_new8 w _
 obtain ⟨W1, hW1⟩ : ∃ W1, (W0.alloc (O W0)).drew = W1 := ⟨_, rfl⟩
 have HR2 : Hid (W1.heap[w.heap.size]? = some ber0) := by rw [← hW1]; exact blk_keep hr0 (((Keeps.refl [] W0).alloc (O W0)).drew) (by simp)
 have HK2 : Hid (Keeps [] w W1) := by rw [← hW1]; exact HK0.out.trans' (((Keeps.refl [] W0).alloc _).drew)
 have HO2 : Hid (BytesAt W1 (.slice (some ⟨W0.heap.size, 0, none⟩) s.length (C W0)) s) := by rw [← hW1]; exact HBY.out W0
 have HLN := Lib.hid hs
 obtain ⟨⟨c0, c1, c2, c3, c4⟩, ⟨f0, f1, f2, f3, f4⟩⟩ := five_facts HR2.out
 clear hr0 hs
 unfold tv
 go_enter Tryz.func39, Tryz.ntmps39
 go_wp2_with fail
 refine ret_ber rfl rfl rfl (five_set HR2.out) rfl ⟨⟨cl, nu, false, some ⟨W0.heap.size, 0, none⟩, s.length, C W0, none, 0, 0⟩, rfl, fun E X hE hk => ?_, five_keep HK2.out (.inr (Nat.le_refl _))⟩
 refine BerAt.flat hc hn rfl ((five_bytes HO2.out (fun b hb => by simp [Value.ownBlock] at hb; have := HZ0.out; omega)).keep hk (fun b hb => ?_))
 simp [Value.ownBlock] at hb
 intro hm
 have := hE b hm
 have := HZ0.out
 omega
set_option maxHeartbeats 16000000 in
theorem rval8_is : ∀ (t : FV) (h : FH) (w : World), FilAt w t h → hasF t = true → orF t = true → szV t ≤ 100000 → Calls Tryz.prog 15 #[h.val] w (VwQ (valF (lowF t)) w) := by
 obtain ⟨iu, hiu, hzu0, hzu1, hzu2⟩ := info_parts ber_info
 intro t
 induction t using FV.ind with
 | h k l s v ih =>
  intro h w ht hh hor hsz
  have HOR := Lib.hid hor
  have HOL := Lib.hid (orF_kids hor)
  clear hor
  have IH := Lib.hid ih
  have HT := Lib.hid ht
  obtain ⟨rfl, rfl, rfl, h4, h5, h6, h7, h8, h9, h10, h11⟩ := ht
  obtain ⟨k, B, lb, cb, s, v⟩ := h
  have hl : l.length = lb := h8
  dsimp only at hh h6 hsz ⊢
  have HI := Lib.hid h11
  have HL := Lib.hid hl
  have HHH := Lib.hid (hasF_cases hh)
  have HSZ : Hid (szVL l ≤ 100000) := by have h9 := hsz; unfold szV at h9; show _ ≤ _; omega
  have HLB : Hid (lb ≤ 100000) := by have h1 := szVL_len l; have h2 := HSZ.out; show _ ≤ _; omega
  have HSM := Lib.hid (fun X => rsmall_is s X h6)
  have HSL : Hid ((smallL s).length ≤ 9223372036854775807) := by show _ ≤ _; rw [smallL_len]; exact h6
  have hk0 : Keeps [] w (w.alloc (.cells #[.int .i64 k, .slice B lb cb, .string ⟨s.toArray⟩, .string ⟨v.toArray⟩] 26)) := (Keeps.refl [] w).alloc _
  have b1 := heap_new8 w (.cells #[.int .i64 k, .slice B lb cb, .string ⟨s.toArray⟩, .string ⟨v.toArray⟩] 26)
  have k2 : Keeps [] (w.alloc (.cells #[.int .i64 k, .slice B lb cb, .string ⟨s.toArray⟩, .string ⟨v.toArray⟩] 26)) ((w.alloc (.cells #[.int .i64 k, .slice B lb cb, .string ⟨s.toArray⟩, .string ⟨v.toArray⟩] 26)).alloc ber0) := (Keeps.refl [] _).alloc _
  have b2 := heap_new8 (w.alloc (.cells #[.int .i64 k, .slice B lb cb, .string ⟨s.toArray⟩, .string ⟨v.toArray⟩] 26)) ber0
  rw [World.size_alloc] at b2
  obtain ⟨W0, hW0⟩ : ∃ W0, (w.alloc (.cells #[.int .i64 k, .slice B lb cb, .string ⟨s.toArray⟩, .string ⟨v.toArray⟩] 26)).alloc ber0 = W0 := ⟨_, rfl⟩
  have hz0 : W0.heap.size = w.heap.size + 2 := by rw [← hW0]; simp
  have b1' := blk_keep b1 k2 (by simp)
  rw [hW0] at b1' b2
  have HB0 := Lib.hid b1'
  have HR0 := Lib.hid b2
  have HK0 : Hid (Keeps [] w W0) := by rw [← hW0]; exact hk0.trans' k2
  have HZ0 := Lib.hid hz0
  obtain ⟨⟨z0, z1, z2, z3⟩, _⟩ := four_facts8 HB0.out
  clear h4 h5 h6 h7 h8 h9 h10 h11 hl ih hh hsz hk0 b1 k2 b2 b1' hz0
  obtain ⟨S, hS⟩ : ∃ S, smallL s = S := ⟨_, rfl⟩
  have HS9 := Lib.hid hS
  rw [hS] at HSM HSL
  clear hS
  unfold FH.val tv
  dsimp only
  go_enter Tryz.func15, Tryz.ntmps15
  go_wp2_with fail
  refine (HSM.out _).mono ?_
  rintro e w1 ⟨rfl, hk1⟩
  have HB1 := Lib.hid (blk_keep HB0.out hk1 (by simp))
  have HR1 := Lib.hid (blk_keep HR0.out hk1 (by simp))
  have HK1 := Lib.hid (HK0.out.trans' hk1)
  have HZ1 : Hid (w.heap.size + 2 ≤ w1.heap.size) := by show _ ≤ _; rw [← HZ0.out]; exact hk1.size
  clear hk1 z0 z1 z2 z3
  obtain ⟨⟨z0, z1, z2, z3⟩, _⟩ := four_facts8 HB1.out
  obtain ⟨BV9, hBV9⟩ : ∃ BV9, w1.heap.size = BV9 := ⟨_, rfl⟩
  rcases HHH.out with ⟨rfl, rfl, rfl⟩ | ⟨hk, rfl, rfl, hhl⟩
  ·have HTV : Hid (∀ X, Calls Tryz.prog 39 #[.string ⟨S.toArray⟩, .int .u8 2, .int .u8 7] X (VwQ (.mk 2 7 false S []) X)) := fun X => rtextv_is S 2 7 X HSL.out (by decide) (by decide)
   have HVL : Hid (valF (lowF (.mk 6 [] s [])) = .mk 2 7 false S []) := by show _ = _; rw [← HS9.out]; simp [lowF, lowFL, valF, valFL, valK]
   obtain rfl : lb = 0 := by have := HL.out; simpa using this.symm
   have hk2 : Keeps [] w1 (w1.alloc (.cells #[.int .u8 2, .int .u8 5, .bool true, .slice none 0 0, .slice none 0 0] 40)) := (Keeps.refl [] w1).alloc _
   have hr2 := blk_keep HR1.out hk2 (by simp)
   have hb2 := blk_keep HB1.out hk2 (by simp)
   have HR2 := Lib.hid hr2
   have HK2 := Lib.hid (HK1.out.trans' hk2)
   obtain ⟨⟨y0, y1, y2, y3⟩, _⟩ := four_facts8 hb2
   clear hk2 hr2 hb2 hBV9
   go_wp2_with fail
   refine wp_loop_rounds 1 ?_
   rw [rounds_succ]
   go_wp2_with fail
   refine (HTV.out _).mono ?_
   rintro e w3 ⟨h3, rfl, hb3, hk3⟩
   obtain ⟨c3, n3, k3, A3, la3, ca3, B3, lb3, cb3⟩ := h3
   have HR3 := Lib.hid (blk_keep HR2.out hk3 (by simp))
   have HK3 := Lib.hid (HK2.out.trans' hk3)
   have HB3 := Lib.hid hb3
   obtain ⟨⟨r0, r1, r2, r3, r4⟩, ⟨f0, f1, f2, f3, f4⟩⟩ := five_facts HR3.out
   unfold BH.val
   dsimp only
   clear hk3 hb3 y0 y1 y2 y3 z0 z1 z2 z3
   go_wp2_with fail
   have hrow := five_set (v0 := .int .u8 (c3 : Int)) (v1 := .int .u8 (n3 : Int)) (v2 := .bool k3) (v3 := .slice A3 la3 ca3) (v4 := .slice B3 lb3 cb3) HR3.out
   have hkf := five_keep (v0 := .int .u8 (c3 : Int)) (v1 := .int .u8 (n3 : Int)) (v2 := .bool k3) (v3 := .slice A3 la3 ca3) (v4 := .slice B3 lb3 cb3) HK3.out (g := w.heap.size + 1) (.inr (Nat.le_succ _))
   have hks := five_keep (bs := [w.heap.size + 1]) (v0 := .int .u8 (c3 : Int)) (v1 := .int .u8 (n3 : Int)) (v2 := .bool k3) (v3 := .slice A3 la3 ca3) (v4 := .slice B3 lb3 cb3) (Keeps.refl [w.heap.size + 1] w3) (g := w.heap.size + 1) (.inl (by simp))
   refine ret_ber rfl rfl rfl hrow rfl ⟨⟨c3, n3, k3, A3, la3, ca3, B3, lb3, cb3⟩, rfl, fun E X hE hk => ?_, hkf⟩
   rw [HVL.out]
   refine HB3.out ((w.heap.size + 1) :: E) X (fun x hx => ?_) ((hks.mono (by simp)).trans hk (fun x hx => .inl (List.mem_cons_of_mem _ hx)))
   have := HZ1.out
   rw [World.size_alloc]
   rcases List.mem_cons.1 hx with hx | hx
   ·omega
   ·have := hE x hx; omega
  ·obtain rfl := orF_kind HOR.out hk
   have HHL := Lib.hid hhl
   have HVL : Hid (valF (lowF (.mk 2 l [] [])) = .mk 2 1 true [] (valFL (lowFL l))) := by show _ = _; simp [lowF, valF, valK]
   obtain ⟨W2, hW2⟩ : ∃ W2, w1.alloc (.cells #[.int .u8 2, .int .u8 1, .bool true, .slice none 0 0, .slice none 0 0] 40) = W2 := ⟨_, rfl⟩
   have hk2 : Keeps [] w1 W2 := by rw [← hW2]; exact (Keeps.refl [] w1).alloc _
   have hv2 := heap_new8 w1 (.cells #[.int .u8 2, .int .u8 1, .bool true, .slice none 0 0, .slice none 0 0] 40)
   rw [hW2, hBV9] at hv2
   have HS0 := Lib.hid (DvS.new (w := w) (nu := 1) hv2 (blk_keep HR1.out hk2 (by simp)) (HK1.out.trans' hk2) (by have := HZ1.out; omega))
   have hb2 := blk_keep HB1.out hk2 (by simp)
   have HBF := Lib.hid hb2
   have HW2 := Lib.hid hW2
   have HK2 := Lib.hid (hk2)
   clear z0 z1 z2 z3 hk2 hv2 hb2 hhl hW2
   obtain ⟨⟨z0, z1, z2, z3⟩, _⟩ := four_facts8 HB1.out
   go_upto_block 0 with fail
   try rw [HW2.out]
   try rw [hBV9]
   clear hBV9 z0 z1 z2 z3
   go_wp2_with fail
   go_loopw [5] (fun i wr => ∃ (j : Nat) (A : Option Addr) (c : Nat) (hs : List BH), i = .int .i64 (j : Int) ∧ j ≤ lb ∧ Hid (DvS w wr BV9 1 A j c hs (valFL (lowFL (l.take j)))) ∧ Hid (wr.heap[w.heap.size]? = some (.cells #[.int .i64 2, .slice B lb cb, .string ⟨#[]⟩, .string ⟨#[]⟩] 26 (0, 0)))) (fun i _ => lb - (intOf i).toNat)
   case atStart => exact ⟨0, none, 0, [], rfl, Nat.zero_le _, (by have h9 := HS0.out; simpa [Hid, lowFL, valFL] using h9), HBF.out⟩
   case round =>
    obtain ⟨j, A, c, hs, rfl, hj, HS, HFB⟩ := hrel
    obtain ⟨⟨z0, z1, z2, z3⟩, _⟩ := four_facts8 HFB.out
    have HKW := HS.out.keep
    have hlo := HS.out.lo
    have hj9 : j ≤ 100000 := Nat.le_trans hj HLB.out
    by_cases hlt : j < lb
    ·have hx : l[j]? = some (l[j]'(by have := HL.out; omega)) := List.getElem?_eq_getElem _
     obtain ⟨B9, o1, hh, rfl, hc0, hat⟩ := HI.out.at_ j _ hx
     rw [Nat.zero_add] at hc0
     have hB9 : B9 < w.heap.size := lt_of_cell (hc0 0 _ rfl)
     have hc9 : ∀ q u, (FH.list hh)[q]? = some u → wr.cell? ⟨B9, o1 + j * 4 + q, none⟩ = some u := fun q u hu => (HKW.cell (lt_of_cell (hc0 q u hu)) (by simp)).trans (hc0 q u hu)
     obtain ⟨g0, g1, g2, g3⟩ := four_at hc9
     have hmem : (l[j]'(by have := HL.out; omega)) ∈ l := List.getElem_mem _
     generalize hxx : l[j]'(by have := HL.out; omega) = x at *
     obtain ⟨k', B', lb'', cb', s', v'⟩ := hh
     have HREC : Hid (∀ _ : Unit, Calls Tryz.prog 15 #[.agg #[.int .i64 k', .slice B' lb'' cb', .string ⟨s'.toArray⟩, .string ⟨v'.toArray⟩]] wr.drew (VwQ (valF (lowF x)) wr.drew)) := fun _ => IH.out x hmem ⟨k', B', lb'', cb', s', v'⟩ wr.drew (FilAt.grow (HKW.trans' (Keeps.refl [] wr).drew) x _ hat) (hasL_mem l x HHL.out hmem) (orL_mem l x HOL.out hmem) (by have h1 := szV_mem l x hmem; have h2 := HSZ.out; omega)
     have HNX : Hid (valFL (lowFL (l.take (j + 1))) = valFL (lowFL (l.take j)) ++ [valF (lowF x)]) := vallow_take hx
     obtain ⟨⟨q0, q1, q2, q3, q4⟩, p0, p1, p2, p3, p4⟩ := five_facts HS.out.box
     have hji : (j : Int) < (lb : Int) := by omega
     have hj0 : (0 : Int) ≤ (j : Int) := by omega
     have s0 : SvV w.heap.size B9 (o1 + j * 4) [.int .i64 2, .slice (some ⟨B9, o1, none⟩) lb cb, .string ⟨#[]⟩, .string ⟨#[]⟩] [.int .i64 k', .slice B' lb'' cb', .string ⟨s'.toArray⟩, .string ⟨v'.toArray⟩] wr := ⟨⟨z0, z1, z2, z3⟩, ⟨g0, g1, g2, g3⟩⟩
     clear hx hat hc0 hc9 hxx hmem
     go_upto_region 6 with fail
     clear g0 g1 g2 g3 z0 z1 z2 z3
     refine wp_region_held_drew (S := SvV w.heap.size B9 (o1 + j * 4) [.int .i64 2, .slice (some ⟨B9, o1, none⟩) lb cb, .string ⟨#[]⟩, .string ⟨#[]⟩] [.int .i64 k', .slice B' lb'' cb', .string ⟨s'.toArray⟩, .string ⟨v'.toArray⟩]) (by kernel_rfl) s0.drew ?_
     intro HS2
     replace s0 := s0.drew
     refine wpAnyH_take (i := 0) (v := .pointer (some ⟨BV9, 4, none⟩)) rfl (by kernel_rfl) (by kernel_rfl) (by kernel_rfl) (fun _ _ _ h => h) (Or.inl ⟨by kernel_rfl, ?_⟩) (by first | exact s9 | exact s8 | exact s7 | exact s6 | exact s0) ?_
     ·intro w5 hw5
      obtain ⟨hw9, hw10⟩ := hw5
      obtain ⟨t0, t1, t2, t3⟩ := hw9
      obtain ⟨t4, t5, t6, t7⟩ := hw10
      go_simp
     simp only [Act.put, aL]
     refine wpAnyH_take (i := 2) (v := .pointer (some ⟨w.heap.size, 1, none⟩)) rfl (by kernel_rfl) (by kernel_rfl) (by kernel_rfl) (fun _ _ _ h => h) (Or.inl ⟨by kernel_rfl, ?_⟩) (by first | exact s9 | exact s8 | exact s7 | exact s6 | exact s0) ?_
     ·intro w5 hw5
      obtain ⟨hw9, hw10⟩ := hw5
      obtain ⟨t0, t1, t2, t3⟩ := hw9
      obtain ⟨t4, t5, t6, t7⟩ := hw10
      go_simp
     simp only [Act.put, aL]
     refine wpAnyH_take (i := 3) (v := .slice (some ⟨B9, o1, none⟩) lb cb) rfl (by kernel_rfl) (by kernel_rfl) (by kernel_rfl) (fun _ _ _ h => h) (Or.inl ⟨by kernel_rfl, ?_⟩) (by first | exact s9 | exact s8 | exact s7 | exact s6 | exact s0) ?_
     ·intro w5 hw5
      obtain ⟨hw9, hw10⟩ := hw5
      obtain ⟨t0, t1, t2, t3⟩ := hw9
      obtain ⟨t4, t5, t6, t7⟩ := hw10
      go_simp
     simp only [Act.put, aL]
     refine wpAnyH_take (i := 4) (v := .int .i64 (j : Int)) rfl (by kernel_rfl) (by kernel_rfl) (by kernel_rfl) (fun _ _ _ h => h) (Or.inl ⟨by kernel_rfl, ?_⟩) (by first | exact s9 | exact s8 | exact s7 | exact s6 | exact s0) ?_
     ·intro w5 hw5
      obtain ⟨hw9, hw10⟩ := hw5
      obtain ⟨t0, t1, t2, t3⟩ := hw9
      obtain ⟨t4, t5, t6, t7⟩ := hw10
      go_simp
     simp only [Act.put, aL]
     refine wpAnyH_take (i := 5) (v := .pointer (some ⟨B9, o1 + j * 4, none⟩)) rfl (by kernel_rfl) (by kernel_rfl) (by kernel_rfl) (fun _ _ _ h => h) (Or.inl ⟨by kernel_rfl, ?_⟩) (by first | exact s9 | exact s8 | exact s7 | exact s6 | exact s0) ?_
     ·intro w5 hw5
      obtain ⟨hw9, hw10⟩ := hw5
      obtain ⟨t0, t1, t2, t3⟩ := hw9
      obtain ⟨t4, t5, t6, t7⟩ := hw10
      go_simp
     simp only [Act.put, aL]
     refine wpAnyH_take (i := 6) (v := .agg #[.int .i64 k', .slice B' lb'' cb', .string ⟨s'.toArray⟩, .string ⟨v'.toArray⟩]) rfl (by kernel_rfl) (by kernel_rfl) (by kernel_rfl) (fun _ _ _ h => h) (Or.inl ⟨by kernel_rfl, ?_⟩) (by first | exact s9 | exact s8 | exact s7 | exact s6 | exact s0) ?_
     ·intro w5 hw5
      obtain ⟨hw9, hw10⟩ := hw5
      obtain ⟨t0, t1, t2, t3⟩ := hw9
      obtain ⟨t4, t5, t6, t7⟩ := hw10
      go_simp
     simp only [Act.put, aL]
     refine wpAnyH_ready (rs := [1, 7]) (by kernel_rfl) (by simp) ?_
     refine AllReadyH.cons rfl (fun K hK => ?_) (AllReadyH.cons rfl (fun K hK => ?_) (AllReadyH.nil))
     ·go_simp
      refine hK.out _ _ (by first | exact s9 | exact s8 | exact s7 | exact s6 | exact s0) (fun HS2 => ?_)
      clear hK K
      try simp only [Act.put, aL]
      refine wpAnyH_ready (rs := [7]) (by kernel_rfl) (by simp) ?_
      refine AllReadyH.cons rfl (fun K hK => ?_) (AllReadyH.nil)
      go_simp
      refine (HREC.out ()).mono ?_
      rintro e w6 ⟨h6, rfl, hit6, hk6⟩
      obtain ⟨c6, n6, k6, A6, la6, ca6, B6, lb6, cb6⟩ := h6
      have HK6 : Hid (Keeps [] wr w6) := ((Keeps.refl [] wr).drew).trans' hk6
      have HIT6 := Lib.hid hit6
      clear hit6 hk6
      unfold BH.val
      dsimp only
      have HB6 : Hid (w6.heap[BV9]? = some (.cells #[.int .u8 2, .int .u8 1, .bool true, .slice none 0 0, .slice A j c] 40 (0, 0))) := blk_keep HS.out.box HK6.out (by simp)
      have HK7 : Hid (Keeps [] w6 (w6.alloc (.cells #[.int .u8 (c6 : Int), .int .u8 (n6 : Int), .bool k6, .slice A6 la6 ca6, .slice B6 lb6 cb6] 40))) := (Keeps.refl [] w6).alloc _
      have HB7 : Hid ((w6.alloc (.cells #[.int .u8 (c6 : Int), .int .u8 (n6 : Int), .bool k6, .slice A6 la6 ca6, .slice B6 lb6 cb6] 40)).heap[BV9]? = some (.cells #[.int .u8 2, .int .u8 1, .bool true, .slice none 0 0, .slice A j c] 40 (0, 0))) := blk_keep HB6.out HK7.out (by simp)
      have HROW : Hid ((w6.alloc (.cells #[.int .u8 (c6 : Int), .int .u8 (n6 : Int), .bool k6, .slice A6 la6 ca6, .slice B6 lb6 cb6] 40)).ownsRow (BV9 + 1) 40 5 (.slice A j c) j (headsL hs)) := own_keep (own_keep HS.out.row HK6.out (fun b hb hm => by cases hm)) HK7.out (fun b hb hm => by cases hm)
      have HBS : Hid (BV9 + 1 ≤ (w6.alloc (.cells #[.int .u8 (c6 : Int), .int .u8 (n6 : Int), .bool k6, .slice A6 la6 ca6, .slice B6 lb6 cb6] 40)).heap.size) := lt_of_heap HB7.out
      have s6 : SvV w.heap.size B9 (o1 + j * 4) [.int .i64 2, .slice (some ⟨B9, o1, none⟩) lb cb, .string ⟨#[]⟩, .string ⟨#[]⟩] [.int .i64 k', .slice B' lb'' cb', .string ⟨s'.toArray⟩, .string ⟨v'.toArray⟩] w6 := SvV.keep (X := wr) s0 HK6.out (by simp) (by simp)
      have s7 : SvV w.heap.size B9 (o1 + j * 4) [.int .i64 2, .slice (some ⟨B9, o1, none⟩) lb cb, .string ⟨#[]⟩, .string ⟨#[]⟩] [.int .i64 k', .slice B' lb'' cb', .string ⟨s'.toArray⟩, .string ⟨v'.toArray⟩] (w6.alloc (.cells #[.int .u8 (c6 : Int), .int .u8 (n6 : Int), .bool k6, .slice A6 la6 ca6, .slice B6 lb6 cb6] 40)) := s6.keep HK7.out (by simp) (by simp)
      obtain ⟨⟨y0, y1, y2, y3, y4⟩, yf0, yf1, yf2, yf3, yf4⟩ := five_facts HB6.out
      obtain ⟨⟨z0, z1, z2, z3, z4⟩, zf0, zf1, zf2, zf3, zf4⟩ := five_facts HB7.out
      refine hK.out _ _ s6 (fun HS2 => ?_)
      clear hK K
      try simp only [Act.put, aL]
      refine wpAnyH_ready (rs := [8]) (by kernel_rfl) (by simp) ?_
      refine AllReadyH.cons rfl (fun K hK => ?_) (AllReadyH.nil)
      go_simp
      refine hK.out _ _ (by first | exact s9 | exact s8 | exact s7 | exact s6 | exact s0) (fun HS2 => ?_)
      clear hK K
      try simp only [Act.put, aL]
      refine wpAnyH_ready (rs := [9]) (by kernel_rfl) (by simp) ?_
      refine AllReadyH.cons rfl (fun K hK => ?_) (AllReadyH.nil)
      rw [if_pos (by kernel_rfl)]
      refine wp_append_opt (.tmp 22) (.tmp 29) 38 rfl (BV9 + 1) 40 iu _ 5 56 Tryz.underlying38 hiu hzu0 hzu1 hzu2 rfl (by decide) (.slice A j c) j (headsL hs) rfl HROW.out (some ⟨w6.heap.size, 0, none⟩) 1 1 (BH.list ⟨c6, n6, k6, A6, la6, ca6, B6, lb6, cb6⟩) rfl rfl (src_one5 w6 ⟨c6, n6, k6, A6, la6, ca6, B6, lb6, cb6⟩ _) (by intro u hu; simp [BH.list] at hu; rcases hu with rfl | rfl | rfl | rfl | rfl <;> rfl) (by unfold maxLen; omega) (by omega) HBS.out ?_
      intro v8 w8 ho8 hg8 hs8
      obtain ⟨A8, c8, hv8⟩ := own_slice ho8
      subst hv8
      have k8 : Keeps ((Value.slice A j c).ownBlock.toList) (w6.alloc (.cells #[.int .u8 (c6 : Int), .int .u8 (n6 : Int), .bool k6, .slice A6 la6 ca6, .slice B6 lb6 cb6] 40)) w8 := Keeps.of_grown hg8 (fun x hx => .inl (by rw [hx]; simp))
      have hvl : ∀ x ∈ (Value.slice A j c).ownBlock.toList, BV9 + 1 ≤ x := fun x hx => (HS.out.row.lt x (by simpa using hx)).1
      have HXN := Lib.hid (HS.out.step HK6.out HIT6.out HK7.out ho8 hg8 hs8)
      have HB8 : Hid (w8.heap[BV9]? = some (.cells #[.int .u8 2, .int .u8 1, .bool true, .slice none 0 0, .slice A j c] 40 (0, 0))) := blk_keep HB7.out k8 (fun hm => by have := hvl BV9 hm; omega)
      have s8 : SvV w.heap.size B9 (o1 + j * 4) [.int .i64 2, .slice (some ⟨B9, o1, none⟩) lb cb, .string ⟨#[]⟩, .string ⟨#[]⟩] [.int .i64 k', .slice B' lb'' cb', .string ⟨s'.toArray⟩, .string ⟨v'.toArray⟩] w8 := s7.keep k8 (fun hm => by have := hvl w.heap.size hm; omega) (fun hm => by have := hvl B9 hm; omega)
      have s9 : SvV w.heap.size B9 (o1 + j * 4) [.int .i64 2, .slice (some ⟨B9, o1, none⟩) lb cb, .string ⟨#[]⟩, .string ⟨#[]⟩] [.int .i64 k', .slice B' lb'' cb', .string ⟨s'.toArray⟩, .string ⟨v'.toArray⟩] (w8.setCell ⟨BV9, 4, none⟩ (.slice A8 (j + 1) c8)) := s8.keep ((Keeps.refl [BV9] w8).setCell (.inl (by simp)) _) (by simp; omega) (by simp; omega)
      have HFB8 : Hid ((w8.setCell ⟨BV9, 4, none⟩ (.slice A8 (j + 1) c8)).heap[w.heap.size]? = some (.cells #[.int .i64 2, .slice (some ⟨B9, o1, none⟩) lb cb, .string ⟨#[]⟩, .string ⟨#[]⟩] 26 (0, 0))) := blk_keep (blk_keep (blk_keep (blk_keep HFB.out HK6.out (by simp)) HK7.out (by simp)) k8 (fun hm => by have := hvl w.heap.size hm; omega)) ((Keeps.refl [BV9] w8).setCell (.inl (by simp)) _) (by simp; omega)
      clear ho8 hg8 hs8 k8 hvl
      obtain ⟨⟨x0, x1, x2, x3, x4⟩, xf0, xf1, xf2, xf3, xf4⟩ := five_facts HB8.out
      refine hK.out _ _ s8 (fun HS2 => ?_)
      clear hK K
      simp only [Act.put, aL]
      refine wpAnyH_take (i := 10) (v := .pointer (some ⟨BV9, 4, none⟩)) rfl (by kernel_rfl) (by kernel_rfl) (by kernel_rfl) (fun _ _ _ h => h) (Or.inl ⟨by kernel_rfl, ?_⟩) (by first | exact s9 | exact s8 | exact s7 | exact s6 | exact s0) ?_
      ·intro w5 hw5
       obtain ⟨hw9, hw10⟩ := hw5
       obtain ⟨t0, t1, t2, t3⟩ := hw9
       obtain ⟨t4, t5, t6, t7⟩ := hw10
       go_simp
      simp only [Act.put, aL]
      refine wpAnyH_ready (rs := [11]) (by kernel_rfl) (by simp) ?_
      refine AllReadyH.cons rfl (fun K hK => ?_) (AllReadyH.nil)
      go_simp
      refine hK.out _ _ (by first | exact s9 | exact s8 | exact s7 | exact s6 | exact s0) (fun HS2 => ?_)
      clear hK K
      try simp only [Act.put, aL]
      refine wpAnyH_done (by kernel_rfl) ?_ _
      clear x0 x1 x2 x3 x4 xf0 xf1 xf2 xf3 xf4 y0 y1 y2 y3 y4 yf0 yf1 yf2 yf3 yf4 z0 z1 z2 z3 z4 zf0 zf1 zf2 zf3 zf4 s0 s6 s7 s8 s9 q0 q1 q2 q3 q4 p0 p1 p2 p3 p4
      go_wp2_with fail
      go_roundw
      case rel => exact ⟨j + 1, A8, c8, _, (by go_num), by omega, (by rw [HNX.out]; exact HXN.out), HFB8.out⟩
      case measure => simp [intOf]; omega
     ·go_simp
      refine (HREC.out ()).mono ?_
      rintro e w6 ⟨h6, rfl, hit6, hk6⟩
      obtain ⟨c6, n6, k6, A6, la6, ca6, B6, lb6, cb6⟩ := h6
      have HK6 : Hid (Keeps [] wr w6) := ((Keeps.refl [] wr).drew).trans' hk6
      have HIT6 := Lib.hid hit6
      clear hit6 hk6
      unfold BH.val
      dsimp only
      have HB6 : Hid (w6.heap[BV9]? = some (.cells #[.int .u8 2, .int .u8 1, .bool true, .slice none 0 0, .slice A j c] 40 (0, 0))) := blk_keep HS.out.box HK6.out (by simp)
      have HK7 : Hid (Keeps [] w6 (w6.alloc (.cells #[.int .u8 (c6 : Int), .int .u8 (n6 : Int), .bool k6, .slice A6 la6 ca6, .slice B6 lb6 cb6] 40))) := (Keeps.refl [] w6).alloc _
      have HB7 : Hid ((w6.alloc (.cells #[.int .u8 (c6 : Int), .int .u8 (n6 : Int), .bool k6, .slice A6 la6 ca6, .slice B6 lb6 cb6] 40)).heap[BV9]? = some (.cells #[.int .u8 2, .int .u8 1, .bool true, .slice none 0 0, .slice A j c] 40 (0, 0))) := blk_keep HB6.out HK7.out (by simp)
      have HROW : Hid ((w6.alloc (.cells #[.int .u8 (c6 : Int), .int .u8 (n6 : Int), .bool k6, .slice A6 la6 ca6, .slice B6 lb6 cb6] 40)).ownsRow (BV9 + 1) 40 5 (.slice A j c) j (headsL hs)) := own_keep (own_keep HS.out.row HK6.out (fun b hb hm => by cases hm)) HK7.out (fun b hb hm => by cases hm)
      have HBS : Hid (BV9 + 1 ≤ (w6.alloc (.cells #[.int .u8 (c6 : Int), .int .u8 (n6 : Int), .bool k6, .slice A6 la6 ca6, .slice B6 lb6 cb6] 40)).heap.size) := lt_of_heap HB7.out
      have s6 : SvV w.heap.size B9 (o1 + j * 4) [.int .i64 2, .slice (some ⟨B9, o1, none⟩) lb cb, .string ⟨#[]⟩, .string ⟨#[]⟩] [.int .i64 k', .slice B' lb'' cb', .string ⟨s'.toArray⟩, .string ⟨v'.toArray⟩] w6 := SvV.keep (X := wr) s0 HK6.out (by simp) (by simp)
      have s7 : SvV w.heap.size B9 (o1 + j * 4) [.int .i64 2, .slice (some ⟨B9, o1, none⟩) lb cb, .string ⟨#[]⟩, .string ⟨#[]⟩] [.int .i64 k', .slice B' lb'' cb', .string ⟨s'.toArray⟩, .string ⟨v'.toArray⟩] (w6.alloc (.cells #[.int .u8 (c6 : Int), .int .u8 (n6 : Int), .bool k6, .slice A6 la6 ca6, .slice B6 lb6 cb6] 40)) := s6.keep HK7.out (by simp) (by simp)
      obtain ⟨⟨y0, y1, y2, y3, y4⟩, yf0, yf1, yf2, yf3, yf4⟩ := five_facts HB6.out
      obtain ⟨⟨z0, z1, z2, z3, z4⟩, zf0, zf1, zf2, zf3, zf4⟩ := five_facts HB7.out
      refine hK.out _ _ s6 (fun HS2 => ?_)
      clear hK K
      try simp only [Act.put, aL]
      refine wpAnyH_ready (rs := [1, 8]) (by kernel_rfl) (by simp) ?_
      refine AllReadyH.cons rfl (fun K hK => ?_) (AllReadyH.cons rfl (fun K hK => ?_) (AllReadyH.nil))
      ·go_simp
       refine hK.out _ _ (by first | exact s9 | exact s8 | exact s7 | exact s6 | exact s0) (fun HS2 => ?_)
       clear hK K
       try simp only [Act.put, aL]
       refine wpAnyH_ready (rs := [8]) (by kernel_rfl) (by simp) ?_
       refine AllReadyH.cons rfl (fun K hK => ?_) (AllReadyH.nil)
       go_simp
       refine hK.out _ _ (by first | exact s9 | exact s8 | exact s7 | exact s6 | exact s0) (fun HS2 => ?_)
       clear hK K
       try simp only [Act.put, aL]
       refine wpAnyH_ready (rs := [9]) (by kernel_rfl) (by simp) ?_
       refine AllReadyH.cons rfl (fun K hK => ?_) (AllReadyH.nil)
       rw [if_pos (by kernel_rfl)]
       refine wp_append_opt (.tmp 22) (.tmp 29) 38 rfl (BV9 + 1) 40 iu _ 5 56 Tryz.underlying38 hiu hzu0 hzu1 hzu2 rfl (by decide) (.slice A j c) j (headsL hs) rfl HROW.out (some ⟨w6.heap.size, 0, none⟩) 1 1 (BH.list ⟨c6, n6, k6, A6, la6, ca6, B6, lb6, cb6⟩) rfl rfl (src_one5 w6 ⟨c6, n6, k6, A6, la6, ca6, B6, lb6, cb6⟩ _) (by intro u hu; simp [BH.list] at hu; rcases hu with rfl | rfl | rfl | rfl | rfl <;> rfl) (by unfold maxLen; omega) (by omega) HBS.out ?_
       intro v8 w8 ho8 hg8 hs8
       obtain ⟨A8, c8, hv8⟩ := own_slice ho8
       subst hv8
       have k8 : Keeps ((Value.slice A j c).ownBlock.toList) (w6.alloc (.cells #[.int .u8 (c6 : Int), .int .u8 (n6 : Int), .bool k6, .slice A6 la6 ca6, .slice B6 lb6 cb6] 40)) w8 := Keeps.of_grown hg8 (fun x hx => .inl (by rw [hx]; simp))
       have hvl : ∀ x ∈ (Value.slice A j c).ownBlock.toList, BV9 + 1 ≤ x := fun x hx => (HS.out.row.lt x (by simpa using hx)).1
       have HXN := Lib.hid (HS.out.step HK6.out HIT6.out HK7.out ho8 hg8 hs8)
       have HB8 : Hid (w8.heap[BV9]? = some (.cells #[.int .u8 2, .int .u8 1, .bool true, .slice none 0 0, .slice A j c] 40 (0, 0))) := blk_keep HB7.out k8 (fun hm => by have := hvl BV9 hm; omega)
       have s8 : SvV w.heap.size B9 (o1 + j * 4) [.int .i64 2, .slice (some ⟨B9, o1, none⟩) lb cb, .string ⟨#[]⟩, .string ⟨#[]⟩] [.int .i64 k', .slice B' lb'' cb', .string ⟨s'.toArray⟩, .string ⟨v'.toArray⟩] w8 := s7.keep k8 (fun hm => by have := hvl w.heap.size hm; omega) (fun hm => by have := hvl B9 hm; omega)
       have s9 : SvV w.heap.size B9 (o1 + j * 4) [.int .i64 2, .slice (some ⟨B9, o1, none⟩) lb cb, .string ⟨#[]⟩, .string ⟨#[]⟩] [.int .i64 k', .slice B' lb'' cb', .string ⟨s'.toArray⟩, .string ⟨v'.toArray⟩] (w8.setCell ⟨BV9, 4, none⟩ (.slice A8 (j + 1) c8)) := s8.keep ((Keeps.refl [BV9] w8).setCell (.inl (by simp)) _) (by simp; omega) (by simp; omega)
       have HFB8 : Hid ((w8.setCell ⟨BV9, 4, none⟩ (.slice A8 (j + 1) c8)).heap[w.heap.size]? = some (.cells #[.int .i64 2, .slice (some ⟨B9, o1, none⟩) lb cb, .string ⟨#[]⟩, .string ⟨#[]⟩] 26 (0, 0))) := blk_keep (blk_keep (blk_keep (blk_keep HFB.out HK6.out (by simp)) HK7.out (by simp)) k8 (fun hm => by have := hvl w.heap.size hm; omega)) ((Keeps.refl [BV9] w8).setCell (.inl (by simp)) _) (by simp; omega)
       clear ho8 hg8 hs8 k8 hvl
       obtain ⟨⟨x0, x1, x2, x3, x4⟩, xf0, xf1, xf2, xf3, xf4⟩ := five_facts HB8.out
       refine hK.out _ _ s8 (fun HS2 => ?_)
       clear hK K
       simp only [Act.put, aL]
       refine wpAnyH_take (i := 10) (v := .pointer (some ⟨BV9, 4, none⟩)) rfl (by kernel_rfl) (by kernel_rfl) (by kernel_rfl) (fun _ _ _ h => h) (Or.inl ⟨by kernel_rfl, ?_⟩) (by first | exact s9 | exact s8 | exact s7 | exact s6 | exact s0) ?_
       ·intro w5 hw5
        obtain ⟨hw9, hw10⟩ := hw5
        obtain ⟨t0, t1, t2, t3⟩ := hw9
        obtain ⟨t4, t5, t6, t7⟩ := hw10
        go_simp
       simp only [Act.put, aL]
       refine wpAnyH_ready (rs := [11]) (by kernel_rfl) (by simp) ?_
       refine AllReadyH.cons rfl (fun K hK => ?_) (AllReadyH.nil)
       go_simp
       refine hK.out _ _ (by first | exact s9 | exact s8 | exact s7 | exact s6 | exact s0) (fun HS2 => ?_)
       clear hK K
       try simp only [Act.put, aL]
       refine wpAnyH_done (by kernel_rfl) ?_ _
       clear x0 x1 x2 x3 x4 xf0 xf1 xf2 xf3 xf4 y0 y1 y2 y3 y4 yf0 yf1 yf2 yf3 yf4 z0 z1 z2 z3 z4 zf0 zf1 zf2 zf3 zf4 s0 s6 s7 s8 s9 q0 q1 q2 q3 q4 p0 p1 p2 p3 p4
       go_wp2_with fail
       go_roundw
       case rel => exact ⟨j + 1, A8, c8, _, (by go_num), by omega, (by rw [HNX.out]; exact HXN.out), HFB8.out⟩
       case measure => simp [intOf]; omega
      ·go_simp
       refine hK.out _ _ (by first | exact s9 | exact s8 | exact s7 | exact s6 | exact s0) (fun HS2 => ?_)
       clear hK K
       try simp only [Act.put, aL]
       refine wpAnyH_ready (rs := [1]) (by kernel_rfl) (by simp) ?_
       refine AllReadyH.cons rfl (fun K hK => ?_) (AllReadyH.nil)
       go_simp
       refine hK.out _ _ (by first | exact s9 | exact s8 | exact s7 | exact s6 | exact s0) (fun HS2 => ?_)
       clear hK K
       try simp only [Act.put, aL]
       refine wpAnyH_ready (rs := [9]) (by kernel_rfl) (by simp) ?_
       refine AllReadyH.cons rfl (fun K hK => ?_) (AllReadyH.nil)
       rw [if_pos (by kernel_rfl)]
       refine wp_append_opt (.tmp 22) (.tmp 29) 38 rfl (BV9 + 1) 40 iu _ 5 56 Tryz.underlying38 hiu hzu0 hzu1 hzu2 rfl (by decide) (.slice A j c) j (headsL hs) rfl HROW.out (some ⟨w6.heap.size, 0, none⟩) 1 1 (BH.list ⟨c6, n6, k6, A6, la6, ca6, B6, lb6, cb6⟩) rfl rfl (src_one5 w6 ⟨c6, n6, k6, A6, la6, ca6, B6, lb6, cb6⟩ _) (by intro u hu; simp [BH.list] at hu; rcases hu with rfl | rfl | rfl | rfl | rfl <;> rfl) (by unfold maxLen; omega) (by omega) HBS.out ?_
       intro v8 w8 ho8 hg8 hs8
       obtain ⟨A8, c8, hv8⟩ := own_slice ho8
       subst hv8
       have k8 : Keeps ((Value.slice A j c).ownBlock.toList) (w6.alloc (.cells #[.int .u8 (c6 : Int), .int .u8 (n6 : Int), .bool k6, .slice A6 la6 ca6, .slice B6 lb6 cb6] 40)) w8 := Keeps.of_grown hg8 (fun x hx => .inl (by rw [hx]; simp))
       have hvl : ∀ x ∈ (Value.slice A j c).ownBlock.toList, BV9 + 1 ≤ x := fun x hx => (HS.out.row.lt x (by simpa using hx)).1
       have HXN := Lib.hid (HS.out.step HK6.out HIT6.out HK7.out ho8 hg8 hs8)
       have HB8 : Hid (w8.heap[BV9]? = some (.cells #[.int .u8 2, .int .u8 1, .bool true, .slice none 0 0, .slice A j c] 40 (0, 0))) := blk_keep HB7.out k8 (fun hm => by have := hvl BV9 hm; omega)
       have s8 : SvV w.heap.size B9 (o1 + j * 4) [.int .i64 2, .slice (some ⟨B9, o1, none⟩) lb cb, .string ⟨#[]⟩, .string ⟨#[]⟩] [.int .i64 k', .slice B' lb'' cb', .string ⟨s'.toArray⟩, .string ⟨v'.toArray⟩] w8 := s7.keep k8 (fun hm => by have := hvl w.heap.size hm; omega) (fun hm => by have := hvl B9 hm; omega)
       have s9 : SvV w.heap.size B9 (o1 + j * 4) [.int .i64 2, .slice (some ⟨B9, o1, none⟩) lb cb, .string ⟨#[]⟩, .string ⟨#[]⟩] [.int .i64 k', .slice B' lb'' cb', .string ⟨s'.toArray⟩, .string ⟨v'.toArray⟩] (w8.setCell ⟨BV9, 4, none⟩ (.slice A8 (j + 1) c8)) := s8.keep ((Keeps.refl [BV9] w8).setCell (.inl (by simp)) _) (by simp; omega) (by simp; omega)
       have HFB8 : Hid ((w8.setCell ⟨BV9, 4, none⟩ (.slice A8 (j + 1) c8)).heap[w.heap.size]? = some (.cells #[.int .i64 2, .slice (some ⟨B9, o1, none⟩) lb cb, .string ⟨#[]⟩, .string ⟨#[]⟩] 26 (0, 0))) := blk_keep (blk_keep (blk_keep (blk_keep HFB.out HK6.out (by simp)) HK7.out (by simp)) k8 (fun hm => by have := hvl w.heap.size hm; omega)) ((Keeps.refl [BV9] w8).setCell (.inl (by simp)) _) (by simp; omega)
       clear ho8 hg8 hs8 k8 hvl
       obtain ⟨⟨x0, x1, x2, x3, x4⟩, xf0, xf1, xf2, xf3, xf4⟩ := five_facts HB8.out
       refine hK.out _ _ s8 (fun HS2 => ?_)
       clear hK K
       simp only [Act.put, aL]
       refine wpAnyH_take (i := 10) (v := .pointer (some ⟨BV9, 4, none⟩)) rfl (by kernel_rfl) (by kernel_rfl) (by kernel_rfl) (fun _ _ _ h => h) (Or.inl ⟨by kernel_rfl, ?_⟩) (by first | exact s9 | exact s8 | exact s7 | exact s6 | exact s0) ?_
       ·intro w5 hw5
        obtain ⟨hw9, hw10⟩ := hw5
        obtain ⟨t0, t1, t2, t3⟩ := hw9
        obtain ⟨t4, t5, t6, t7⟩ := hw10
        go_simp
       simp only [Act.put, aL]
       refine wpAnyH_ready (rs := [11]) (by kernel_rfl) (by simp) ?_
       refine AllReadyH.cons rfl (fun K hK => ?_) (AllReadyH.nil)
       go_simp
       refine hK.out _ _ (by first | exact s9 | exact s8 | exact s7 | exact s6 | exact s0) (fun HS2 => ?_)
       clear hK K
       try simp only [Act.put, aL]
       refine wpAnyH_done (by kernel_rfl) ?_ _
       clear x0 x1 x2 x3 x4 xf0 xf1 xf2 xf3 xf4 y0 y1 y2 y3 y4 yf0 yf1 yf2 yf3 yf4 z0 z1 z2 z3 z4 zf0 zf1 zf2 zf3 zf4 s0 s6 s7 s8 s9 q0 q1 q2 q3 q4 p0 p1 p2 p3 p4
       go_wp2_with fail
       go_roundw
       case rel => exact ⟨j + 1, A8, c8, _, (by go_num), by omega, (by rw [HNX.out]; exact HXN.out), HFB8.out⟩
       case measure => simp [intOf]; omega
    ·obtain rfl : j = lb := by omega
     have htl : l.take j = l := List.take_of_length_le (by rw [HL.out]; exact Nat.le_refl _)
     rw [htl] at HS
     obtain ⟨⟨q0, q1, q2, q3, q4⟩, _⟩ := five_facts HS.out.box
     obtain ⟨⟨r0, r1, r2, r3, r4⟩, f0, f1, f2, f3, f4⟩ := five_facts HS.out.res
     clear htl
     go_wp2_with fail
     have hrow := five_set (v0 := .int .u8 2) (v1 := .int .u8 1) (v2 := .bool true) (v3 := .slice none 0 0) (v4 := .slice A j c) HS.out.res
     have hkf := five_keep (v0 := .int .u8 2) (v1 := .int .u8 1) (v2 := .bool true) (v3 := .slice none 0 0) (v4 := .slice A j c) HKW (g := w.heap.size + 1) (.inr (Nat.le_succ _))
     have hks := five_keep (bs := [w.heap.size + 1]) (v0 := .int .u8 2) (v1 := .int .u8 1) (v2 := .bool true) (v3 := .slice none 0 0) (v4 := .slice A j c) (Keeps.refl [w.heap.size + 1] wr) (g := w.heap.size + 1) (.inl (by simp))
     refine ret_ber rfl rfl rfl hrow rfl ⟨⟨2, 1, true, none, 0, 0, A, j, c⟩, rfl, ?_, hkf⟩
     rw [HVL.out]
     exact DvS.fin (nu := 1) HS.out hks (by decide)
end Go.Proofs.YtbfebljahjmjfaaGreatDoor
