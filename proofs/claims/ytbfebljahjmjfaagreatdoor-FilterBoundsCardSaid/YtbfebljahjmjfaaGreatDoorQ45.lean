import Derived.Test.YtbfebljahjmjfaaGreatDoorQ44
import Derived.Test.YtbfebljahjmjfaaGreatDoorQ35
import Derived.BigQuiet
import Derived.Deep.CutBlock
/- filter: the document's of, on values of filters of many and of having one; walked. -/
namespace Go.Proofs.YtbfebljahjmjfaaGreatDoor
open Go.RowKit Go.Shelf
set_option linter.unusedVariables false
set_option linter.unusedSimpArgs false
set_option maxRecDepth 100000

/-- What a round finds: the filter under way in its box, those of it in a row of their own. -/
structure OvS (w wr : World) (B : Nat) (k : Int) (A : Option Addr) (j c : Nat) (hs : List FH) (l : List FV) : Prop where
 box : wr.heap[B]? = some (.cells #[.int .i64 k, .slice A j c, .string ⟨#[]⟩, .string ⟨#[]⟩] 26 (0, 0))
 res : wr.heap[w.heap.size + 1]? = some (.cells #[.int .i64 0, .slice none 0 0, .string ⟨#[]⟩, .string ⟨#[]⟩] 26 (0, 0))
 row : wr.ownsRow (B + 1) 26 4 (.slice A j c) j (headsF hs)
 hsl : hs.length = j
 lsl : l.length = j
 items : ∀ (E : List Nat) X, (∀ x ∈ E, x < B + 1 ∨ (Value.slice A j c).ownBlock = some x) → Keeps E wr X → ∀ (i : Nat) (t : FV) (h : FH), l[i]? = some t → hs[i]? = some h → FilAt X t h
 keep : Keeps [] w wr
 lo : w.heap.size + 1 < B
theorem OvS.grow {w wr X : World} {B : Nat} {k : Int} {A : Option Addr} {j c : Nat} {hs : List FH} {l : List FV} (H : OvS w wr B k A j c hs l) (hX : Keeps [] wr X) : OvS w X B k A j c hs l :=
 ⟨blk_keep H.box hX (by simp), blk_keep H.res hX (by simp), own_keep H.row hX (fun b hb hm => by cases hm), H.hsl, H.lsl, fun E Y hE hk => H.items E Y hE ((hX.mono (cs := E) (by simp)).trans hk (fun x hx => .inl hx)), H.keep.trans' hX, H.lo⟩
theorem OvS.new {w wr : World} {B : Nat} {k : Int} (hb : wr.heap[B]? = some (.cells #[.int .i64 k, .slice none 0 0, .string ⟨#[]⟩, .string ⟨#[]⟩] 26 (0, 0))) (hr : wr.heap[w.heap.size + 1]? = some (.cells #[.int .i64 0, .slice none 0 0, .string ⟨#[]⟩, .string ⟨#[]⟩] 26 (0, 0))) (hk : Keeps [] w wr) (hlo : w.heap.size + 1 < B) : OvS w wr B k none 0 0 [] [] :=
 ⟨hb, hr, World.ownsRow_nil _ _ _ _, rfl, rfl, fun E X hE hX i t h ht => by simp at ht, hk, hlo⟩
theorem OvS.step {w wr w6 w7 w8 : World} {B : Nat} {k : Int} {A A8 : Option Addr} {j c c8 : Nat} {hs : List FH} {l : List FV} (H : OvS w wr B k A j c hs l)
  {t : FV} {h : FH} (k6 : Keeps [] wr w6) (hp : ∀ (E : List Nat) X, (∀ x ∈ E, x < wr.heap.size) → Keeps E w6 X → FilAt X t h) (k7 : Keeps [] w6 w7)
  (ho : w8.ownsRow (B + 1) 26 4 (.slice A8 (j + 1) c8) (j + 1) (headsF hs ++ h.list)) (hg : w7.grownBy w8 (Value.slice A j c).ownBlock) (hs8 : (Value.slice A8 (j + 1) c8).ownBlock = (Value.slice A j c).ownBlock ∨ (Value.slice A8 (j + 1) c8).ownBlock = some w7.heap.size) :
  OvS w (w8.setCell ⟨B, 1, none⟩ (.slice A8 (j + 1) c8)) B k A8 (j + 1) c8 (hs ++ [h]) (l ++ [t]) := by
 have Hbox := H.box
 have Hrow := H.row
 have Hit := H.items
 have hz6 := k6.size
 have hz7 := k7.size
 have hlo := H.lo
 have hBr : B < wr.heap.size := lt_of_heap Hbox
 have k8 : Keeps (Value.slice A j c).ownBlock.toList w7 w8 := Keeps.of_grown hg (fun x hx => .inl (by rw [hx]; simp))
 have hz8 := k8.size
 have k9 : Keeps [B] w8 (w8.setCell ⟨B, 1, none⟩ (.slice A8 (j + 1) c8)) := (Keeps.refl [B] w8).setCell (.inl (by simp)) _
 have hvl : ∀ x ∈ (Value.slice A j c).ownBlock.toList, B + 1 ≤ x ∧ x < wr.heap.size := fun x hx => Hrow.lt x (by simpa using hx)
 have k68 : Keeps (Value.slice A j c).ownBlock.toList w6 w8 := (k7.mono (by simp)).trans k8 (fun x hx => .inl hx)
 have k69 : Keeps (B :: (Value.slice A j c).ownBlock.toList) w6 (w8.setCell ⟨B, 1, none⟩ (.slice A8 (j + 1) c8)) := (k68.mono (fun x hx => .inl (List.mem_cons_of_mem _ hx))).trans k9 (fun x hx => .inl (by simp at hx; simp [hx]))
 have kr9 : Keeps (B :: (Value.slice A j c).ownBlock.toList) wr (w8.setCell ⟨B, 1, none⟩ (.slice A8 (j + 1) c8)) := (k6.mono (by simp)).trans k69 (fun x hx => .inl hx)
 have hnb : ∀ x, x ≤ B → x ∉ (Value.slice A j c).ownBlock.toList := fun x hx hm => by have := hvl x hm; omega
 have hnb2 : ∀ x, x < B → x ∉ B :: (Value.slice A j c).ownBlock.toList := fun x hx hm => by
  rcases List.mem_cons.1 hm with hm | hm
  ·omega
  ·exact hnb x (by omega) hm
 have hbox8 : w8.heap[B]? = some (.cells #[.int .i64 k, .slice A j c, .string ⟨#[]⟩, .string ⟨#[]⟩] 26 (0, 0)) := blk_keep (blk_keep Hbox k6 (by simp)) k68 (hnb B (Nat.le_refl _))
 refine ⟨heap_setCell_same w8 B 1 _ _ _ hbox8, blk_keep (blk_keep H.res k6 (by simp)) k69 (hnb2 _ (by omega)), ?_, by simp [H.hsl], by simp [H.lsl], fun E X hE hk i t' h' ht' hh' => ?_, ?_, hlo⟩
 ·rw [headsF_snoc]
  exact own_keep ho k9 (fun b hb hm => by have := (ho.lt b hb).1; simp at hm; omega)
 ·have hcase : ∀ x ∈ E, x < wr.heap.size ∨ w7.heap.size ≤ x := fun x hx => by
   rcases hE x hx with h9 | h9
   ·exact .inl (by omega)
   ·rcases hs8 with h10 | h10
    ·rw [h10] at h9
     exact .inl (hvl x (by rw [h9]; simp)).2
    ·rw [h10] at h9
     injection h9 with h9
     exact .inr (by omega)
  have hold : ∀ x ∈ E, x < wr.heap.size → x < B + 1 ∨ (Value.slice A j c).ownBlock = some x := fun x hx hlt => by
   rcases hE x hx with h9 | h9
   ·exact .inl h9
   ·rcases hs8 with h10 | h10
    ·rw [h10] at h9; exact .inr h9
    ·rw [h10] at h9
     injection h9 with h9
     omega
  by_cases hj : i < j
  ·rw [List.getElem?_append_left (by rw [H.lsl]; exact hj)] at ht'
   rw [List.getElem?_append_left (by rw [H.hsl]; exact hj)] at hh'
   have kX : Keeps ((B :: (Value.slice A j c).ownBlock.toList) ++ E.filter (fun x => decide (x < wr.heap.size))) wr X := by
    have k10 : Keeps ((B :: (Value.slice A j c).ownBlock.toList) ++ E.filter (fun x => decide (x < wr.heap.size))) wr _ := kr9.mono (fun x hx => .inl (List.mem_append_left _ hx))
    refine k10.trans hk (fun x hx => ?_)
    rcases hcase x hx with h9 | h9
    ·exact .inl (List.mem_append_right _ (List.mem_filter.2 ⟨hx, by simpa using h9⟩))
    ·exact .inr (by omega)
   refine Hit _ X (fun x hx => ?_) kX i t' h' ht' hh'
   rcases List.mem_append.1 hx with hx | hx
   ·rcases List.mem_cons.1 hx with hx | hx
    ·exact .inl (by omega)
    ·exact .inr (by simpa using hx)
   ·obtain ⟨h9, h10⟩ := List.mem_filter.1 hx
    exact hold x h9 (by simpa using h10)
  ·have hja : i = j := by
    have := (List.getElem?_eq_some_iff.1 ht').1
    simp [H.lsl] at this
    omega
   subst hja
   rw [List.getElem?_append_right (by rw [H.lsl]; exact Nat.le_refl _), H.lsl] at ht'
   rw [List.getElem?_append_right (by rw [H.hsl]; exact Nat.le_refl _), H.hsl] at hh'
   simp at ht' hh'
   subst ht' hh'
   have kX : Keeps ((B :: (Value.slice A i c).ownBlock.toList) ++ E.filter (fun x => decide (x < wr.heap.size))) w6 X := by
    have k10 : Keeps ((B :: (Value.slice A i c).ownBlock.toList) ++ E.filter (fun x => decide (x < wr.heap.size))) w6 _ := k69.mono (fun x hx => .inl (List.mem_append_left _ hx))
    refine k10.trans hk (fun x hx => ?_)
    rcases hcase x hx with h9 | h9
    ·exact .inl (List.mem_append_right _ (List.mem_filter.2 ⟨hx, by simpa using h9⟩))
    ·exact .inr (by show w6.heap.size ≤ x; omega)
   refine hp _ X (fun x hx => ?_) kX
   rcases List.mem_append.1 hx with hx | hx
   ·rcases List.mem_cons.1 hx with hx | hx
    ·omega
    ·have := (hvl x hx).2; omega
   ·have : x < wr.heap.size := by simpa using (List.mem_filter.1 hx).2
    omega
 ·refine H.keep.trans kr9 (fun x hx => ?_)
  rcases List.mem_cons.1 hx with hx | hx
  ·exact .inr (by omega)
  ·exact .inr (by have := (hvl x hx).1; omega)
theorem OvS.fin {w wr : World} {B : Nat} {k : Int} {A : Option Addr} {j c : Nat} {hs : List FH} {l : List FV} (H : OvS w wr B k A j c hs l) {w3 : World} (k3 : Keeps [w.heap.size + 1] wr w3) (hk : -9223372036854775808 ≤ k ∧ k ≤ 9223372036854775807) :
  ∀ (E : List Nat) X, (∀ x ∈ E, x < w.heap.size) → Keeps E w3 X → FilAt X (.mk k l [] []) ⟨k, A, j, c, [], []⟩ := fun E X hE hX => by
 have hlo := H.lo
 have kX : Keeps ((w.heap.size + 1) :: E) wr X := (k3.mono (cs := (w.heap.size + 1) :: E) (fun x hx => .inl (by simp at hx; simp [hx]))).trans hX (fun x hx => .inl (by simp [hx]))
 have hrow := own_keep H.row kX (fun b hb hm => by
  have h9 := (H.row.lt b hb).1
  rcases List.mem_cons.1 hm with hm | hm
  ·omega
  ·have := hE b hm; omega)
 have hcap := cap_of_own hrow
 refine ⟨rfl, rfl, rfl, hk.1, hk.2, Nat.zero_le _, Nat.zero_le _, H.lsl, hcap.1, hcap.2, fils_own hrow H.hsl H.lsl (fun i t' h' ht' hh' => H.items ((w.heap.size + 1) :: E) X (fun x hx => ?_) kX i t' h' ht' hh')⟩
 rcases List.mem_cons.1 hx with hx | hx
 ·exact .inl (by omega)
 ·exact .inl (by have := hE x hx; omega)
mutual
/-- Is none in it too deep? -/
def dF : Nat → FV → Bool
 | d, .mk k l s v => decide (d ≤ 16) && dL (d + 1) l
def dL : Nat → List FV → Bool
 | _, [] => true
 | d, t :: r => dF d t && dL d r
end
theorem dL_take (d : Nat) : ∀ (l : List FV) (j : Nat) (x : FV), l[j]? = some x → dF d x = false → dL d l = false
 | [], j, x, h, _ => by simp at h
 | t :: r, 0, x, h, hx => by
  simp at h
  subst h
  simp [dL, hx]
 | t :: r, j + 1, x, h, hx => by
  have := dL_take d r j x (by simpa using h) hx
  simp [dL, this]
theorem dL_snoc (d : Nat) : ∀ (l : List FV) (x : FV), dL d (l ++ [x]) = (dL d l && dF d x)
 | [], x => by simp [dL]
 | t :: r, x => by
  show dL d (t :: (r ++ [x])) = _
  simp only [dL]
  rw [dL_snoc d r x, Bool.and_assoc]
/-- How the document's of ends. -/
def RofQ (d : Nat) (f : FV) (w : World) (e : Ending) (w' : World) : Prop :=
 (dF d f = true → ∃ h, e = .returned (.tuple #[FH.val h, .bool true]) ∧ ∀ (E : List Nat) X, (∀ x ∈ E, x < w.heap.size) → Keeps E w' X → FilAt X (lowF f) h) ∧ (dF d f = false → e = .returned (.tuple #[FH.val ⟨0, none, 0, 0, [], []⟩, .bool false])) ∧ Keeps [] w w'
set_option maxHeartbeats 16000000 in
theorem rof8_is : ∀ (f : FV) (d : Nat) (h : BH) (w : World), BerAt w (valF f) h → hasF f = true → orF f = true → szV f ≤ 100000 → d ≤ 17 → Calls Tryz.prog 91 #[h.val, .int .i64 (d : Int)] w (RofQ d f w) := by
 obtain ⟨iu, hiu, hzu0, hzu1, hzu2⟩ := info_parts fil_info8
 intro f
 induction f using FV.ind with
 | h k l s v ih =>
  intro d h w ht hh hor hsz hd
  have HOR := Lib.hid hor
  have HOL := Lib.hid (orF_kids hor)
  clear hor
  have IH := Lib.hid ih
  have HHH := Lib.hid (hasF_cases hh)
  have HSZ : Hid (szVL l ≤ 100000) := by have h9 := hsz; unfold szV at h9; show _ ≤ _; omega
  have HLB : Hid (l.length ≤ 100000) := by have h1 := szVL_len l; have h2 := HSZ.out; show _ ≤ _; omega
  have hdf : dF d (.mk k l s v) = (decide (d ≤ 16) && dL (d + 1) l) := by simp [dF]
  have HDF := Lib.hid hdf
  obtain ⟨ch, nh, kh, Ah, lah, cah, Bh, lb, cbh⟩ := h
  have HC2 : Hid (ch = 2) := by
   rcases HHH.out with ⟨rfl, rfl, rfl⟩ | ⟨hk, rfl, rfl, hl⟩
   ·simp only [valF, valK] at ht
    rw [if_neg (by decide), if_neg (by decide), if_pos trivial] at ht
    exact ht.1
   ·simp only [valF, valK] at ht
    rw [if_neg (by omega), if_neg (by omega), if_neg (by omega)] at ht
    exact ht.1
  have hch := HC2.out
  subst hch
  have HT := Lib.hid ht
  have k1 : Keeps [] w (w.alloc (.cells #[.int .u8 2, .int .u8 (nh : Int), .bool kh, .slice Ah lah cah, .slice Bh lb cbh] 40)) := (Keeps.refl [] w).alloc _
  have b1 := heap_new8 w (.cells #[.int .u8 2, .int .u8 (nh : Int), .bool kh, .slice Ah lah cah, .slice Bh lb cbh] 40)
  have k2 : Keeps [] (w.alloc (.cells #[.int .u8 2, .int .u8 (nh : Int), .bool kh, .slice Ah lah cah, .slice Bh lb cbh] 40)) ((w.alloc (.cells #[.int .u8 2, .int .u8 (nh : Int), .bool kh, .slice Ah lah cah, .slice Bh lb cbh] 40)).alloc (.cells #[.int .i64 0, .slice none 0 0, .string ⟨#[]⟩, .string ⟨#[]⟩] 26)) := (Keeps.refl [] _).alloc _
  have b2 := heap_new8 (w.alloc (.cells #[.int .u8 2, .int .u8 (nh : Int), .bool kh, .slice Ah lah cah, .slice Bh lb cbh] 40)) (.cells #[.int .i64 0, .slice none 0 0, .string ⟨#[]⟩, .string ⟨#[]⟩] 26)
  rw [World.size_alloc] at b2
  obtain ⟨W0, hW0⟩ : ∃ W0, (w.alloc (.cells #[.int .u8 2, .int .u8 (nh : Int), .bool kh, .slice Ah lah cah, .slice Bh lb cbh] 40)).alloc (.cells #[.int .i64 0, .slice none 0 0, .string ⟨#[]⟩, .string ⟨#[]⟩] 26) = W0 := ⟨_, rfl⟩
  have hz0 : W0.heap.size = w.heap.size + 2 := by rw [← hW0]; simp
  have b1' := blk_keep b1 k2 (by simp)
  rw [hW0] at b1' b2
  have HB0 := Lib.hid b1'
  have HR0 := Lib.hid b2
  have HK0 : Hid (Keeps [] w W0) := by rw [← hW0]; exact k1.trans' k2
  have HZ0 := Lib.hid hz0
  have HBZ := HB0.out
  obtain ⟨⟨r0, r1, r2, r3⟩, ⟨e0, e1, e2, e3⟩⟩ := four_facts8 HR0.out
  have FIN : Hid (∀ (X : World), Keeps [] w X → X.heap[w.heap.size + 1]? = some (.cells #[.int .i64 0, .slice none 0 0, .string ⟨#[]⟩, .string ⟨#[]⟩] 26 (0, 0)) → dF d (.mk k l s v) = false → ∀ fn : Array Value, fn.getD 4 undef = .pointer (some ⟨w.heap.size + 1, 0, none⟩) → fn.getD 5 undef = .bool false →
    bodyPost Tryz.prog Tryz.f91 (RofQ d (.mk k l s v) w) .ret ⟨fn, []⟩ ((((X.setCell ⟨w.heap.size + 1, 0, none⟩ (.int .i64 0)).setCell ⟨w.heap.size + 1, 1, none⟩ (.slice none 0 0)).setCell ⟨w.heap.size + 1, 2, none⟩ (.string ⟨#[]⟩)).setCell ⟨w.heap.size + 1, 3, none⟩ (.string ⟨#[]⟩))) := by
   intro X hX hx hno fn h6 h7
   have HR6' := heap_setCell_same _ (w.heap.size + 1) 0 _ _ (.int .i64 0) hx
   have HR7' := heap_setCell_same _ (w.heap.size + 1) 1 _ _ (.slice none 0 0) HR6'
   have HR8' := heap_setCell_same _ (w.heap.size + 1) 2 _ _ (.string ⟨#[]⟩) HR7'
   have hrow := heap_setCell_same _ (w.heap.size + 1) 3 _ _ (.string ⟨#[]⟩) HR8'
   refine bodyPost_ret (results_fil_tmp rfl _ _ (w.heap.size + 1) _ (0, 0) h6 rfl hrow) rfl ⟨fun h9 => (by rw [hno] at h9; cases h9), fun _ => by rw [h7]; rfl, ?_⟩
   exact ((((hX.setCell (.inr (Nat.le_succ _)) _).setCell (.inr (Nat.le_succ _)) _).setCell (.inr (Nat.le_succ _)) _).setCell (.inr (Nat.le_succ _)) _)
  clear ih hh hsz hdf ht k1 b1 k2 b2 b1' hz0 HC2
  unfold BH.val
  dsimp only
  by_cases hd16 : d ≤ 16
  rotate_left
  ·have hdi : (16 : Int) < (d : Int) := by omega
   obtain ⟨⟨z0, z1, z2, z3, z4⟩, _⟩ := five_facts HBZ
   have HNO : Hid (dF d (.mk k l s v) = false) := by show _ = _; rw [HDF.out]; simp [hd16]
   go_enter Tryz.func91, Tryz.ntmps91
   go_wp2_with fail
   exact FIN.out W0 HK0.out HR0.out HNO.out _ rfl rfl
  ·have hdi : ¬ (16 : Int) < (d : Int) := by omega
   rcases HHH.out with ⟨rfl, rfl, rfl⟩ | ⟨hk, rfl, rfl, hl⟩
   ·have ht := HT.out
    simp only [valF, valK] at ht
    rw [if_neg (by decide), if_neg (by decide), if_pos trivial] at ht
    obtain ⟨h1, h2, h3, h4, h5, h6, h7, h8, h9, h10, h11⟩ := ht
    dsimp only at h2 h3 h6 h7
    subst h2 h3
    rw [show (((7 : Nat)) : Int) = 7 from rfl] at hW0 HBZ
    obtain ⟨⟨z0, z1, z2, z3, z4⟩, _⟩ := five_facts HBZ
    clear HBZ
    have HYES : Hid (dF d (.mk 6 [] s []) = true) := by show _ = _; rw [HDF.out]; simp [hd16, dL]
    have hcv := conv_bytes (h7.grow HK0.out)
    have hsl : s.length ≤ 9223372036854775807 := by
     obtain ⟨_, _, _, h8, h9, _⟩ := h7
     unfold maxLen at h9
     omega
    have HSM := Lib.hid (fun X => rsmall_is s X hsl)
    have HSL : Hid ((smallL s).length ≤ 9223372036854775807) := by show _ ≤ _; rw [smallL_len]; exact hsl
    clear h1 h4 h5 h6 h7 h8 h9 h10 h11 hsl HDF
    go_enter Tryz.func91, Tryz.ntmps91
    go_wp2_with fail
    refine (HSM.out _).mono ?_
    rintro e w3 ⟨rfl, hk3⟩
    have HR3 := Lib.hid (blk_keep HR0.out hk3 (by simp))
    have HK3 := Lib.hid (HK0.out.trans' hk3)
    clear hk3 z0 z1 z2 z3 z4 r0 r1 r2 r3 e0 e1 e2 e3
    obtain ⟨⟨r0, r1, r2, r3⟩, ⟨e0, e1, e2, e3⟩⟩ := four_facts8 HR3.out
    obtain ⟨S, hS⟩ : ∃ S, smallL s = S := ⟨_, rfl⟩
    have HS9 := Lib.hid hS
    rw [hS] at HSL ⊢
    clear hS
    go_wp2_with fail
    have HR6' := heap_setCell_same _ (w.heap.size + 1) 0 _ _ (.int .i64 6) HR3.out
    have HR7' := heap_setCell_same _ (w.heap.size + 1) 1 _ _ (.slice none 0 0) HR6'
    have HR8' := heap_setCell_same _ (w.heap.size + 1) 2 _ _ (.string ⟨S.toArray⟩) HR7'
    have hrow := heap_setCell_same _ (w.heap.size + 1) 3 _ _ (.string ⟨#[]⟩) HR8'
    refine bodyPost_ret (results_fil_tmp rfl _ _ (w.heap.size + 1) _ (0, 0) rfl rfl hrow) rfl ⟨fun _ => ⟨⟨6, none, 0, 0, S, []⟩, rfl, fun E X _ _ => ?_⟩, fun h9 => (by rw [HYES.out] at h9; cases h9), ?_⟩
    ·simp only [lowF, lowFL]
     exact ⟨rfl, HS9.out.symm, rfl, by omega, by omega, by rw [HS9.out]; exact HSL.out, by simp, rfl, Nat.le_refl _, by show (0 : Nat) ≤ _; omega, trivial⟩
    ·exact ((((HK3.out.setCell (.inr (Nat.le_succ _)) _).setCell (.inr (Nat.le_succ _)) _).setCell (.inr (Nat.le_succ _)) _).setCell (.inr (Nat.le_succ _)) _)
   ·have HHL := Lib.hid hl
    obtain rfl := orF_kind HOR.out hk
    have ht := HT.out
    simp only [valF, valK] at ht
    rw [if_neg (by decide), if_neg (by decide), if_neg (by decide)] at ht
    obtain ⟨h1, h2, h3, h4, h5, h6, h7, h8, h9, h10, h11⟩ := ht
    have e2 : nh = 1 := h2
    have e3 : kh = true := h3
    subst e2 e3
    rw [show (((1 : Nat)) : Int) = 1 from rfl] at hW0 HBZ
    obtain ⟨⟨z0, z1, z2, z3, z4⟩, _⟩ := five_facts HBZ
    clear HBZ
    have hll : (valFL l).length = lb := h8
    have hl0 : l.length = lb := by rw [← hll, valFL_map, List.length_map]
    have HL := Lib.hid hl0
    have HI := Lib.hid h11
    have HVL := Lib.hid hll
    clear h1 h2 h3 h4 h5 h6 h7 h8 h9 h10 h11 hl hl0 hll
    obtain ⟨B, hB⟩ : ∃ B, W0.heap.size = B := ⟨_, rfl⟩
    obtain ⟨W2, hW2⟩ : ∃ W2, W0.alloc (.cells #[.int .i64 2, .slice none 0 0, .string ⟨#[]⟩, .string ⟨#[]⟩] 26) = W2 := ⟨_, rfl⟩
    have hk2 : Keeps [] W0 W2 := by rw [← hW2]; exact (Keeps.refl [] W0).alloc _
    have hv2 := heap_new8 W0 (.cells #[.int .i64 2, .slice none 0 0, .string ⟨#[]⟩, .string ⟨#[]⟩] 26)
    rw [hW2, hB] at hv2
    have HVB : Hid (W2.heap[w.heap.size]? = some (.cells #[.int .u8 2, .int .u8 1, .bool true, .slice Ah lah cah, .slice Bh lb cbh] 40 (0, 0))) := blk_keep HB0.out hk2 (by simp)
    have HS0 := Lib.hid (OvS.new (w := w) (k := 2) hv2 (blk_keep HR0.out hk2 (by simp)) (HK0.out.trans' hk2) (by have := HZ0.out; omega))
    have HW2 := Lib.hid hW2
    have HBB := Lib.hid hB
    obtain ⟨⟨y0, y1, y2, y3, y4⟩, _⟩ := five_facts HVB.out
    clear hk2 hv2 hW2 hB
    go_enter Tryz.func91, Tryz.ntmps91
    go_upto_region 8 with fail
    try rw [HW2.out]
    try rw [HBB.out]
    clear z0 z1 z2 z3 z4 r0 r1 r2 r3 e0 e1 e2 e3
    go_wp2_with fail
    go_loopw [7] (fun i wr => ∃ (j : Nat) (A : Option Addr) (cc : Nat) (hs : List FH), i = .int .i64 (j : Int) ∧ j ≤ lb ∧ Hid (OvS w wr B 2 A j cc hs (lowFL (l.take j))) ∧ Hid (dL (d + 1) (l.take j) = true) ∧ Hid (wr.heap[w.heap.size]? = some (.cells #[.int .u8 2, .int .u8 1, .bool true, .slice Ah lah cah, .slice Bh lb cbh] 40 (0, 0)))) (fun i _ => lb - (intOf i).toNat)
    case atStart => exact ⟨0, none, 0, [], rfl, Nat.zero_le _, (by have h9 := HS0.out; simpa [Hid, lowFL] using h9), (by simp [Hid, dL]), HVB.out⟩
    clear y0 y1 y2 y3 y4
    case round =>
     obtain ⟨j, A, cc, hs, rfl, hj, HS, HD, HV⟩ := hrel
     obtain ⟨⟨y0, y1, y2, y3, y4⟩, _⟩ := five_facts HV.out
     have HKW := HS.out.keep
     have hlo := HS.out.lo
     have hj9 : j ≤ 100000 := by have := HLB.out; have := HL.out; omega
     by_cases hlt : j < lb
     ·have hx : l[j]? = some (l[j]'(by have := HL.out; omega)) := List.getElem?_eq_getElem _
      have hxv : (valFL l)[j]? = some (valF (l[j]'(by have := HL.out; omega))) := by rw [valFL_map, List.getElem?_map, hx]; rfl
      obtain ⟨b9, o1, hh, rfl, hc0, hat⟩ := HI.out.at_ j _ hxv
      rw [Nat.zero_add] at hc0
      have hc9 : ∀ q u, (BH.list hh)[q]? = some u → wr.cell? ⟨b9, o1 + j * 5 + q, none⟩ = some u := fun q u hu => (HKW.cell (lt_of_cell (hc0 q u hu)) (by simp)).trans (hc0 q u hu)
      obtain ⟨g0, g1, g2, g3, g4⟩ := five_at hc9
      have hmem : (l[j]'(by have := HL.out; omega)) ∈ l := List.getElem_mem _
      generalize hxx : l[j]'(by have := HL.out; omega) = x at *
      obtain ⟨c', n', k', A', la', ca', B', lb', cb'⟩ := hh
      have HXX := Lib.hid hx
      have HREC : Hid (∀ Y, Keeps [] wr Y → Calls Tryz.prog 91 #[.agg #[.int .u8 (c' : Int), .int .u8 (n' : Int), .bool k', .slice A' la' ca', .slice B' lb' cb'], .int .i64 ((d : Int) + 1)] Y (RofQ (d + 1) x Y)) := fun Y hY => by
       have h9 := IH.out x hmem (d + 1) ⟨c', n', k', A', la', ca', B', lb', cb'⟩ Y (BerAt.grow (HKW.trans' hY) _ _ hat) (hasL_mem l x HHL.out hmem) (orL_mem l x HOL.out hmem) (by have h1 := szV_mem l x hmem; have h2 := HSZ.out; omega) (by omega)
       rw [show ((d + 1 : Nat) : Int) = (d : Int) + 1 by omega] at h9
       exact h9
      have hw : IntKind.i64.wrap ((d : Int) + 1) = ((d : Int) + 1) := IntWalk.i64_in _ (by omega)
      have hji : (j : Int) < (lb : Int) := by omega
      have hj0 : (0 : Int) ≤ (j : Int) := by omega
      clear hx hxv hat hc0 hc9 hxx hmem
      go_wp2_with fail
      refine (HREC.out _ (Keeps.refl _ _)).mono ?_
      rintro e w6 ⟨h1, h2, hk6⟩
      clear g0 g1 g2 g3 g4 y0 y1 y2 y3 y4
      cases hdx : dF (d + 1) x with
      | false =>
       obtain rfl := h2 hdx
       have HNO : Hid (dF d (.mk 2 l [] []) = false) := by show _ = _; rw [HDF.out, dL_take (d + 1) l j x HXX.out hdx]; simp
       have hk7 := hk6.alloc (.cells #[.int .i64 0, .slice none 0 0, .string ⟨#[]⟩, .string ⟨#[]⟩] 26)
       have HKW7 := Lib.hid (HS.out.keep.trans' hk7)
       have HRW7 := Lib.hid (blk_keep HS.out.res hk7 (by simp))
       obtain ⟨⟨r0, r1, r2, r3⟩, ⟨e0, e1, e2, e3⟩⟩ := four_facts8 HRW7.out
       clear h1 h2 hdx hk6 hk7
       unfold FH.val tv
       dsimp only
       go_wp2_with fail
       exact FIN.out _ HKW7.out HRW7.out HNO.out _ rfl rfl
      | true =>
       obtain ⟨h, rfl, hf⟩ := h1 hdx
       have HDX : Hid (dL (d + 1) (l.take (j + 1)) = true) := by
        show _ = _
        rw [List.take_add_one, HXX.out]
        show dL _ (l.take j ++ [x]) = true
        rw [dL_snoc, HD.out, hdx]
        rfl
       have HNX : Hid (lowFL (l.take (j + 1)) = lowFL (l.take j) ++ [lowF x]) := by
        show _ = _
        rw [List.take_add_one, HXX.out, lowFL_map, lowFL_map]
        simp
       have HF := Lib.hid hf
       have HK6 := Lib.hid hk6
       clear h1 h2 hdx hf
       obtain ⟨k6, B6, lb6, cb6, t6, v6⟩ := h
       obtain ⟨W7, hW7⟩ : ∃ W7, w6.alloc (.cells #[.int .i64 k6, .slice B6 lb6 cb6, .string ⟨t6.toArray⟩, .string ⟨v6.toArray⟩] 26) = W7 := ⟨_, rfl⟩
       have hk7 : Keeps [] w6 W7 := by rw [← hW7]; exact (Keeps.refl [] w6).alloc _
       have hb7 := heap_new8 w6 (.cells #[.int .i64 k6, .slice B6 lb6 cb6, .string ⟨t6.toArray⟩, .string ⟨v6.toArray⟩] 26)
       rw [hW7] at hb7
       have HK7 := Lib.hid hk7
       have HB7 := Lib.hid hb7
       have HS7 := Lib.hid (HS.out.grow (hk6.trans' hk7))
       obtain ⟨⟨z0, z1, z2, z3⟩, ⟨f0, f1, f2, f3⟩⟩ := four_facts8 HS7.out.box
       obtain ⟨⟨q0, q1, q2, q3⟩, _⟩ := four_facts8 HB7.out
       clear hk7 hb7 hk6
       have HK8 : Hid (Keeps [] W7 (W7.alloc (.cells #[.int .i64 k6, .slice B6 lb6 cb6, .string ⟨t6.toArray⟩, .string ⟨v6.toArray⟩] 26))) := (Keeps.refl [] W7).alloc _
       have HROW := Lib.hid (HS7.out.grow HK8.out).row
       have HBX := Lib.hid (HS7.out.grow HK8.out).box
       have HSZ9 : Hid (B + 1 ≤ (W7.alloc (.cells #[.int .i64 k6, .slice B6 lb6 cb6, .string ⟨t6.toArray⟩, .string ⟨v6.toArray⟩] 26)).heap.size) := by
        have h8 := lt_of_heap HBX.out
        show _ ≤ _
        omega
       unfold FH.val tv
       dsimp only
       go_wp2_with (at_builtin; refine wpList_append_opt rfl (.tmp 83) (.tmp 85) 24 rfl (B + 1) 26 iu _ 4 64 Tryz.underlying24 hiu hzu0 hzu1 hzu2 rfl (by decide) (.slice A j cc) j (headsF hs) rfl HROW.out (some ⟨W7.heap.size, 0, none⟩) 1 1 (FH.list ⟨k6, B6, lb6, cb6, t6, v6⟩) rfl rfl (src_one8 W7 ⟨k6, B6, lb6, cb6, t6, v6⟩ _) (by intro u hu; simp [FH.list, tv] at hu; rcases hu with rfl | rfl | rfl | rfl <;> rfl) (by unfold maxLen; omega) (by omega) HSZ9.out ?_; intro v8 w8 ho8 hg8 hs8; obtain ⟨A8, c8, hv8⟩ := own_slice ho8; subst hv8; have HX := Lib.hid (HS.out.step HK6.out HF.out (HK7.out.trans' HK8.out) ho8 hg8 hs8); have k8 : Keeps ((Value.slice A j cc).ownBlock.toList) (W7.alloc (.cells #[.int .i64 k6, .slice B6 lb6 cb6, .string ⟨t6.toArray⟩, .string ⟨v6.toArray⟩] 26)) w8 := Keeps.of_grown hg8 (fun x hx => .inl (by rw [hx]; simp)); have hvl : ∀ x ∈ (Value.slice A j cc).ownBlock.toList, B + 1 ≤ x := fun x hx => (HROW.out.lt x (by simpa using hx)).1; have HB8 : Hid (w8.heap[B]? = some (.cells #[.int .i64 2, .slice A j cc, .string ⟨#[]⟩, .string ⟨#[]⟩] 26 (0, 0))) := blk_keep HBX.out k8 (fun hm => by have := hvl B hm; omega); have HV8 : Hid ((w8.setCell ⟨B, 1, none⟩ (.slice A8 (j + 1) c8)).heap[w.heap.size]? = some (.cells #[.int .u8 2, .int .u8 1, .bool true, .slice Ah lah cah, .slice (some ⟨b9, o1, none⟩) lb cbh] 40 (0, 0))) := blk_keep (blk_keep (blk_keep HV.out (HK6.out.trans' (HK7.out.trans' HK8.out)) (by simp)) k8 (fun hm => by have := hvl w.heap.size hm; omega)) ((Keeps.refl [B] w8).setCell (.inl (by simp)) _) (by simp; omega); obtain ⟨⟨x0, x1, x2, x3⟩, xf0, xf1, xf2, xf3⟩ := four_facts8 HB8.out; clear ho8 hg8 hs8 k8 hvl)
       go_roundw
       case rel => exact ⟨j + 1, A8, c8, _, (by go_num), by omega, (by rw [HNX.out]; exact HX.out), HDX.out, HV8.out⟩
       case measure => simp [intOf]; omega
     ·obtain rfl : j = lb := by omega
      have htl : l.take j = l := List.take_of_length_le (by rw [HL.out]; exact Nat.le_refl _)
      rw [htl] at HS HD
      have HYES : Hid (dF d (.mk 2 l [] []) = true) := by show _ = _; rw [HDF.out, HD.out]; simp [hd16]
      obtain ⟨⟨q0, q1, q2, q3⟩, _⟩ := four_facts8 HS.out.box
      obtain ⟨⟨r0, r1, r2, r3⟩, e0, e1, e2, e3⟩ := four_facts8 HS.out.res
      clear htl
      go_wp2_with fail
      have HR6' := heap_setCell_same _ (w.heap.size + 1) 0 _ _ (.int .i64 2) HS.out.res
      have HR7' := heap_setCell_same _ (w.heap.size + 1) 1 _ _ (.slice A j cc) HR6'
      have HR8' := heap_setCell_same _ (w.heap.size + 1) 2 _ _ (.string ⟨#[]⟩) HR7'
      have hrow := heap_setCell_same _ (w.heap.size + 1) 3 _ _ (.string ⟨#[]⟩) HR8'
      have k9 : Keeps [w.heap.size + 1] wr ((((wr.setCell ⟨w.heap.size + 1, 0, none⟩ (.int .i64 2)).setCell ⟨w.heap.size + 1, 1, none⟩ (.slice A j cc)).setCell ⟨w.heap.size + 1, 2, none⟩ (.string ⟨#[]⟩)).setCell ⟨w.heap.size + 1, 3, none⟩ (.string ⟨#[]⟩)) := ((((Keeps.refl [w.heap.size + 1] wr).setCell (.inl (by simp)) _).setCell (.inl (by simp)) _).setCell (.inl (by simp)) _).setCell (.inl (by simp)) _
      refine bodyPost_ret (results_fil_tmp rfl _ _ (w.heap.size + 1) _ (0, 0) rfl rfl hrow) rfl ⟨fun _ => ⟨⟨2, A, j, cc, [], []⟩, rfl, fun E X hE hX => ?_⟩, fun h9 => (by rw [HYES.out] at h9; cases h9), HKW.trans k9 (fun x hx => .inr (by rw [List.mem_singleton.1 hx]; omega))⟩
      have h9 := HS.out.fin k9 ⟨by omega, by omega⟩ E X hE hX
      have hs0 : smallL [] = [] := rfl
      simpa [lowF, hs0] using h9
end Go.Proofs.YtbfebljahjmjfaaGreatDoor
