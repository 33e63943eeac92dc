import Derived.Test.YtbfebljahjmjfaaGreatDoorQ28
import Derived.Test.YtbfebljahjmjfaaGreatDoorQ18
import Derived.BigQuiet
/- filter: the value of a filter: through with values; walked. -/
namespace Go.Proofs.YtbfebljahjmjfaaGreatDoor
open Go.RowKit Go.Shelf
set_option linter.unusedVariables false
set_option linter.unusedSimpArgs false
set_option maxRecDepth 100000

mutual
/-- A filter as a value. -/
def valF : FV → BV
 | .mk k l s v => valK k s v (valFL l)
def valFL : List FV → List BV
 | [] => []
 | t :: r => valF t :: valFL r
end
mutual
/-- None in it is of a kind that is not walked yet. -/
def mildF : FV → Bool
 | .mk k l s v => k != 4 && k != 5 && mildL l
def mildL : List FV → Bool
 | [] => true
 | t :: r => mildF t && mildL r
end
theorem valFL_map : ∀ l : List FV, valFL l = l.map valF
 | [] => by simp [valFL]
 | t :: r => by simp [valFL, valFL_map r]
theorem mildL_mem : ∀ (l : List FV) (t : FV), mildL l = true → t ∈ l → mildF t = true
 | x :: r, t, h, hm => by
  simp only [mildL, Bool.and_eq_true] at h
  rcases List.mem_cons.1 hm with hm | hm
  ·subst hm; exact h.1
  ·exact mildL_mem r t h.2 hm
theorem mild_kind {k : Int} {l : List FV} {s v : Txt} (h : mildF (.mk k l s v) = true) : k ≠ 4 ∧ k ≠ 5 ∧ mildL l = true := by
 simp only [mildF, Bool.and_eq_true, bne_iff_ne, ne_eq] at h
 exact ⟨h.1.1, h.1.2, h.2⟩
theorem valK_big (k : Int) (s v : Txt) (of : List BV) : nodesB (valK k s v of) ≤ 4 + nodesL of ∧ maxB (valK k s v of) ≤ s.length + v.length + maxL of := by
 unfold valK
 split
 ·simp [nodesB, nodesL, maxB, maxL] <;> omega
 ·split
  ·simp [nodesB, nodesL, maxB, maxL] <;> omega
  ·split
   ·simp [nodesB, nodesL, maxB, maxL] <;> omega
   ·simp [nodesB, maxB] <;> omega
mutual
theorem valF_big : ∀ (t : FV) (d m n : Nat), thruF aloneF d m t = some n → nodesB (valF t) ≤ 4 * (n - m) ∧ maxB (valF t) ≤ 2200 * (n - m)
 | .mk k l s v, d, m, n, h => by
  obtain ⟨h1, h2, h3, h4⟩ := thruF_le aloneF _ _ _ _ h
  rw [thrF_in ⟨h2, h3⟩] at h
  cases hq : thruL aloneF (d + 1) (m + 1) l with
  | none => rw [hq] at h; cases h
  | some n' =>
   rw [hq] at h
   dsimp only at h
   split at h
   ·rename_i ha
    injection h with h
    subst h
    rw [aloneF_is] at ha
    have h5 := valFL_big l (d + 1) (m + 1) n' hq
    have h6 := alone_lens ha
    have h7 := valK_big k s v (valFL l)
    simp only [valF]
    omega
   ·cases h
theorem valFL_big : ∀ (l : List FV) (d m n : Nat), thruL aloneF d m l = some n → nodesL (valFL l) ≤ 4 * (n - m) ∧ maxL (valFL l) ≤ 2200 * (n - m)
 | [], d, m, n, h => by simp [valFL, nodesL, maxL]
 | t :: r, d, m, n, h => by
  simp only [thruL] at h
  cases hq : thruF aloneF d m t with
  | none => rw [hq] at h; cases h
  | some n' =>
   rw [hq] at h
   have h1 := valF_big t d m n' hq
   have h2 := valFL_big r d n' n h
   have h3 := (thruF_le aloneF _ _ _ _ hq).1
   have h4 := (thruL_le aloneF _ _ _ _ h).1
   simp only [valFL, nodesL, maxL]
   omega
end
theorem headsL_snoc (hs : List BH) (h : BH) : headsL (hs ++ [h]) = headsL hs ++ h.list := by simp [headsL]
theorem src_one5 (w : World) (h : BH) (t : TypeId) : Src (w.alloc (.cells #[.int .u8 (h.c : Int), .int .u8 (h.n : Int), .bool h.k, .slice h.A h.la h.ca, .slice h.B h.lb h.cb] t)) (some ⟨w.heap.size, 0, none⟩) 1 h.list := by
 refine ⟨(fun h => by cases h), fun ad hA j u hu => ?_⟩
 cases hA
 have h9 : ([.int .u8 (h.c : Int), .int .u8 (h.n : Int), .bool h.k, .slice h.A h.la h.ca, .slice h.B h.lb h.cb] : List Value)[j]? = some u := hu
 rw [add_at, Nat.zero_add, World.cell?_alloc_new]
 simpa using h9
theorem boxes_on5 {w wr w7 w8 : World} {gm n c j : Nat} {A : Option Addr} {xs : List Value} {o : Obj} {b : Nat} (hr : wr.ownsRow (w.heap.size + 2) 40 5 (.slice A j c) n xs) (k : Keeps [gm] wr w7) (hg : w7.grownBy w8 (Value.slice A j c).ownBlock) (hb : b < w.heap.size + 2) (hne : b ≠ gm) (h : wr.heap[b]? = some o) : w8.heap[b]? = some o :=
 blk_keep (blk_keep h k (by simpa using hne)) (Keeps.of_grown (bs := (Value.slice A j c).ownBlock.toList) hg (fun x hx => .inl (by rw [hx]; simp))) (fun hm => by have := (hr.lt b (by simpa using hm)).1; omega)
/-- What a round finds. -/
structure ThrVS (w wr : World) (gm gn : Nat) (no : Int) (d m : Nat) (l : List FV) (j : Nat) (A : Option Addr) (c : Nat) (hs : List BH) (n : Nat) : Prop where
 cnt : thruL aloneF (d + 1) (m + 1) (l.take j) = some n
 pass : PassAt wr gm gn n no
 row : wr.ownsRow (w.heap.size + 2) 40 5 (.slice A j c) j (headsL hs)
 hsl : hs.length = j
 items : ∀ (E : List Nat) X, (∀ x ∈ E, x < w.heap.size + 2 ∨ (Value.slice A j c).ownBlock = some x) → Keeps E wr X → ∀ (i : Nat) (t : FV) (h : BH), (l.take j)[i]? = some t → hs[i]? = some h → BerAt X (valF t) h
 keep : Keeps [gm] w wr
 siz : w.heap.size + 2 ≤ wr.heap.size
theorem ThrVS.step {w wr w5 w6 w7 w8 : World} {gm gn : Nat} {no : Int} {d m : Nat} {l : List FV} {j : Nat} {A A8 : Option Addr} {c c8 : Nat} {hs : List BH} {n n' : Nat} (H : ThrVS w wr gm gn no d m l j A c hs n) (hgm : gm < w.heap.size) (hgn : gn < w.heap.size)
  {t : FV} {h : BH} (ht : l[j]? = some t) (k5 : Keeps [] wr w5) (hn : thruF aloneF (d + 1) n t = some n') (k6 : Keeps [gm] w5 w6) (hp6 : PassAt w6 gm gn n' no) (hp : ∀ (E : List Nat) X, (∀ x ∈ E, x < w5.heap.size) → Keeps E w6 X → BerAt X (valF t) h) (k7 : Keeps [] w6 w7)
  (ho : w8.ownsRow (w.heap.size + 2) 40 5 (.slice A8 (j + 1) c8) (j + 1) (headsL hs ++ h.list)) (hg : w7.grownBy w8 (Value.slice A j c).ownBlock) (hs8 : (Value.slice A8 (j + 1) c8).ownBlock = (Value.slice A j c).ownBlock ∨ (Value.slice A8 (j + 1) c8).ownBlock = some w7.heap.size) :
  ThrVS w w8 gm gn no d m l (j + 1) A8 c8 (hs ++ [h]) n' := by
 have hz5 := k5.size
 have hz6 := k6.size
 have hz7 := k7.size
 have hsz := H.siz
 have k8 : Keeps (Value.slice A j c).ownBlock.toList w7 w8 := Keeps.of_grown hg (fun x hx => .inl (by rw [hx]; simp))
 have hz8 := k8.size
 have hvl : ∀ x ∈ (Value.slice A j c).ownBlock.toList, w.heap.size + 2 ≤ x ∧ x < wr.heap.size := fun x hx => H.row.lt x (by simpa using hx)
 have k68 : Keeps (Value.slice A j c).ownBlock.toList w6 w8 := (k7.mono (by simp)).trans k8 (fun x hx => .inl hx)
 have kr8 : Keeps (gm :: (Value.slice A j c).ownBlock.toList) wr w8 := ((k5.mono (cs := [gm]) (by simp)).trans' k6 |>.mono (cs := gm :: (Value.slice A j c).ownBlock.toList) (by simp)).trans k68 (fun x hx => .inl (List.mem_cons_of_mem _ hx))
 have htk : l.take (j + 1) = l.take j ++ [t] := by rw [List.take_add_one, ht]; rfl
 refine ⟨by rw [htk, thruL_snoc, H.cnt]; exact hn, hp6.keep k68 (fun hm => by have := hvl gm hm; omega) (fun hm => by have := hvl gn hm; omega), by rw [headsL_snoc]; exact ho, by simp [H.hsl], fun E X hE hk i t' h' ht' hh' => ?_, H.keep.trans kr8 (fun x hx => ?_), by omega⟩
 ·have hcase : ∀ x ∈ E, x < wr.heap.size ∨ w7.heap.size ≤ x := fun x hx => by
   rcases hE x hx with h9 | h9
   ·exact .inl (by omega)
   ·rcases hs8 with h10 | h10
    ·rw [h10] at h9
     exact .inl (hvl x (by rw [h9]; simp)).2
    ·rw [h10] at h9
     injection h9 with h9
     exact .inr (by omega)
  have hold : ∀ x ∈ E, x < wr.heap.size → x < w.heap.size + 2 ∨ (Value.slice A j c).ownBlock = some x := fun x hx hlt => by
   rcases hE x hx with h9 | h9
   ·exact .inl h9
   ·rcases hs8 with h10 | h10
    ·rw [h10] at h9; exact .inr h9
    ·rw [h10] at h9
     injection h9 with h9
     omega
  rw [htk] at ht'
  have hjl : (l.take j).length = j := by
   rw [List.length_take]
   have := (List.getElem?_eq_some_iff.1 ht).1
   omega
  by_cases hj : i < j
  ·rw [List.getElem?_append_left (by rw [hjl]; exact hj)] at ht'
   rw [List.getElem?_append_left (by rw [H.hsl]; exact hj)] at hh'
   have kX : Keeps ((gm :: (Value.slice A j c).ownBlock.toList) ++ E.filter (fun x => decide (x < wr.heap.size))) wr X := by
    have k10 : Keeps ((gm :: (Value.slice A j c).ownBlock.toList) ++ E.filter (fun x => decide (x < wr.heap.size))) wr w8 := kr8.mono (fun x hx => .inl (List.mem_append_left _ hx))
    refine k10.trans hk (fun x hx => ?_)
    rcases hcase x hx with h9 | h9
    ·exact .inl (List.mem_append_right _ (List.mem_filter.2 ⟨hx, by simpa using h9⟩))
    ·exact .inr (by omega)
   refine H.items _ X (fun x hx => ?_) kX i t' h' ht' hh'
   rcases List.mem_append.1 hx with hx | hx
   ·simp only [List.mem_cons] at hx
    rcases hx with hx | hx
    ·exact .inl (by omega)
    ·exact .inr (by simpa using hx)
   ·obtain ⟨h9, h10⟩ := List.mem_filter.1 hx
    exact hold x h9 (by simpa using h10)
  ·have hja : i = j := by
    have := (List.getElem?_eq_some_iff.1 ht').1
    simp at this
    omega
   subst hja
   rw [List.getElem?_append_right (by rw [hjl]; exact Nat.le_refl _), hjl] at ht'
   rw [List.getElem?_append_right (by rw [H.hsl]; exact Nat.le_refl _), H.hsl] at hh'
   simp at ht' hh'
   subst ht' hh'
   have kX : Keeps ((Value.slice A i c).ownBlock.toList ++ E.filter (fun x => decide (x < wr.heap.size))) w6 X := by
    have k10 : Keeps ((Value.slice A i c).ownBlock.toList ++ E.filter (fun x => decide (x < wr.heap.size))) w6 w8 := k68.mono (fun x hx => .inl (List.mem_append_left _ hx))
    refine k10.trans hk (fun x hx => ?_)
    rcases hcase x hx with h9 | h9
    ·exact .inl (List.mem_append_right _ (List.mem_filter.2 ⟨hx, by simpa using h9⟩))
    ·exact .inr (by omega)
   refine hp _ X (fun x hx => ?_) kX
   rcases List.mem_append.1 hx with hx | hx
   ·have := (hvl x hx).2; omega
   ·have : x < wr.heap.size := by simpa using (List.mem_filter.1 hx).2
    omega
 ·simp only [List.mem_cons] at hx
  rcases hx with hx | hx
  ·exact .inl (by simp [hx])
  ·exact .inr (by have := (hvl x hx).1; omega)
/-- How valueOf's through ends. -/
def ThrVQ (no : Int) (n : Nat) (t : FV) (gm gn : Nat) (w : World) (e : Ending) (w' : World) : Prop :=
 ∃ h : BH, e = .returned h.val ∧ (∀ (E : List Nat) X, (∀ x ∈ E, x < w.heap.size) → Keeps E w' X → BerAt X (valF t) h) ∧ PassAt w' gm gn n no ∧ Keeps [gm] w w'
set_option maxHeartbeats 16000000 in
theorem thrV_is (gp gx gw gm gn : Nat) (no : Int) (w0 : World) (hgm0 : w0.heap.size ≤ gm) (hG : NumsAt w0) : ∀ (t : FV) (d m nn : Nat) (h : FH) (w : World), d ≤ 17 → m ≤ 200 → FilAt w0 t h → Keeps [] w0 w →
  EnvF gp gx gw gm gn 209 (.func (.func 145) #[] #[]) w → PassAt w gm gn m no → thruF aloneF d m t = some nn → mildF t = true →
  Calls Tryz.prog 209 #[h.val, .int .i64 (d : Int), .pointer (some ⟨gp, 0, none⟩), .pointer (some ⟨gx, 0, none⟩), .pointer (some ⟨gw, 0, none⟩)] w (ThrVQ no nn t gm gn w) := by
 obtain ⟨iu, hiu, hzu0, hzu1, hzu2⟩ := info_parts ber_info
 intro t
 induction t using FV.ind with
 | h k l s v ih =>
  intro d m nn h w hd hm ht hk0 hE hP hthr hmild
  obtain ⟨hm4, hm5, hml⟩ := mild_kind hmild
  have HML := Lib.hid hml
  have HM45 : Hid (k ≠ 4 ∧ k ≠ 5) := ⟨hm4, hm5⟩
  clear hmild hm4 hm5 hml
  have IH := Lib.hid ih
  have hgmw := lt_of_heap hP.many
  have hgnw := lt_of_heap hP.no
  obtain ⟨hC1, hC2, hC3, _⟩ := thruF_le aloneF _ _ _ _ hthr
  rw [thrF_in ⟨hC2, hC3⟩] at hthr
  obtain ⟨n9, hn9, hal9⟩ : ∃ n9, thruL aloneF (d + 1) (m + 1) l = some n9 ∧ aloneF (.mk k l s v) = true ∧ n9 = nn := by
   cases hq : thruL aloneF (d + 1) (m + 1) l with
   | none => rw [hq] at hthr; cases hthr
   | some n9 =>
    rw [hq] at hthr
    dsimp only at hthr
    split at hthr
    ·rename_i ha
     injection hthr with hthr
     exact ⟨n9, rfl, ha, hthr⟩
    ·cases hthr
  obtain ⟨hal, rfl⟩ := hal9
  rw [aloneF_is] at hal
  have HPS := Lib.hid (fun X hX => pass8_is d gm gn m no X (by omega) (by omega) hX)
  obtain ⟨rfl, rfl, rfl, h4, h5, h6, h7, h8, h9, h10, h11⟩ := ht
  obtain ⟨k, B, lb, cb, s, v⟩ := h
  have hl : l.length = lb := h8
  have hlb : lb ≤ 9223372036854775807 := Nat.le_trans h9 h10
  dsimp only at h6 h7 hal
  rw [hl] at hal
  have HAL := Lib.hid (alone_kinds hal)
  have HLE := Lib.hid (alone_lens hal)
  have HSL : Hid (s.length ≤ 9223372036854775807 ∧ v.length ≤ 9223372036854775807) := ⟨h6, h7⟩
  have HTH := Lib.hid hn9
  have HI := Lib.hid h11
  have HL := Lib.hid hl
  have HK0 := Lib.hid hk0
  have HE := Lib.hid hE
  have HP := Lib.hid hP
  have HB1 := Lib.hid (heap_new8 w (.cells #[.int .i64 k, .slice B lb cb, .string ⟨s.toArray⟩, .string ⟨v.toArray⟩] 26))
  have hka : Keeps [] w (w.alloc (.cells #[.int .i64 k, .slice B lb cb, .string ⟨s.toArray⟩, .string ⟨v.toArray⟩] 26)) := (Keeps.refl [] w).alloc _
  have HKB : Hid (Keeps [] w ((w.alloc (.cells #[.int .i64 k, .slice B lb cb, .string ⟨s.toArray⟩, .string ⟨v.toArray⟩] 26)).alloc ber0)) := hka.alloc _
  have HB2 := Lib.hid (blk_keep HB1.out ((Keeps.refl [] _).alloc ber0) (by simp))
  have HR2 := Lib.hid (heap_new8 (w.alloc (.cells #[.int .i64 k, .slice B lb cb, .string ⟨s.toArray⟩, .string ⟨v.toArray⟩] 26)) ber0)
  rw [World.size_alloc] at HR2
  have HZ : Hid (w.heap.size + 2 ≤ ((w.alloc (.cells #[.int .i64 k, .slice B lb cb, .string ⟨s.toArray⟩, .string ⟨v.toArray⟩] 26)).alloc ber0).heap.size) := by show _ ≤ _; simp
  clear h4 h5 h6 h7 h8 h9 h10 h11 hl hk0 hE hP ih hal hn9 hthr hka
  unfold FH.val tv
  dsimp only
  have HEW := HE.out.keep (HKB.out.mono (cs := [gm]) (by simp))
  obtain ⟨e1, e2, e3, _, _, _⟩ := HEW
  go_enter Tryz.func209, Tryz.ntmps209
  go_wp2_with fail
  have HP1 := Lib.hid (HP.out.keep HKB.out (by simp) (by simp))
  generalize (w.alloc (.cells #[.int .i64 k, .slice B lb cb, .string ⟨s.toArray⟩, .string ⟨v.toArray⟩] 26)).alloc ber0 = W1 at HKB HB2 HR2 HZ HP1 e1 e2 e3 ⊢
  refine (HPS.out W1 HP1.out).mono ?_
  rintro e w2 ⟨⟨hc, rfl⟩ | ⟨hc, rfl⟩, hp2, hk2⟩
  rotate_left
  ·exact absurd ⟨hC2, hC3⟩ hc
  ·have HK2 := Lib.hid ((HKB.out.mono (cs := [gm]) (by simp)).trans' hk2)
   have HB3 := Lib.hid (blk_keep HB2.out hk2 (by simp; omega))
   have HR3 := Lib.hid (blk_keep HR2.out hk2 (by simp; omega))
   have HS0 : Hid (ThrVS w w2 gm gn no d m l 0 none 0 [] (m + 1)) := ⟨by simp [thruL], hp2, World.ownsRow_nil _ _ _ _, rfl, by simp, HK2.out, Nat.le_trans HZ.out hk2.size⟩
   obtain ⟨⟨z0, z1, z2, z3⟩, _⟩ := four_facts8 HB3.out
   clear hc hk2 hp2 e1 e2 e3
   go_wp2_with fail
   go_loopw [8, 17] (fun a i wr => ∃ (A : Option Addr) (j c n : Nat) (hs : List BH), a = .slice A j c ∧ i = .int .i64 (j : Int) ∧ j ≤ lb ∧ Hid (ThrVS w wr gm gn no d m l j A c hs n) ∧ Hid (wr.heap[w.heap.size]? = some (.cells #[.int .i64 k, .slice B lb cb, .string ⟨s.toArray⟩, .string ⟨v.toArray⟩] 26 (0, 0))) ∧ Hid (wr.heap[w.heap.size + 1]? = some ber0)) (fun _ i _ => lb - (intOf i).toNat)
   case atStart => exact ⟨none, 0, 0, m + 1, [], rfl, rfl, Nat.zero_le _, HS0.out, HB3.out, HR3.out⟩
   clear z0 z1 z2 z3
   case round =>
    obtain ⟨A, j, c, n, hs, rfl, rfl, hj, HS, HBX, HRX⟩ := hrel
    have hn200 := (thruL_le aloneF _ _ _ _ HS.out.cnt).2 (by omega)
    have hjn : j ≤ 200 := by
     have h8 := (thruL_le aloneF _ _ _ _ HS.out.cnt).1
     rw [List.length_take, HL.out, Nat.min_eq_left hj] at h8
     omega
    have HKW : Hid (Keeps [] w0 wr) := HK0.out.trans HS.out.keep (fun x hx => .inr (by rw [List.mem_singleton.1 hx]; exact hgm0))
    have hgr := lt_of_heap HS.out.pass.many
    by_cases hlt : j < lb
    ·have hx : l[j]? = some (l[j]'(by have := HL.out; omega)) := List.getElem?_eq_getElem _
     obtain ⟨b9, o1, hh, rfl, hc0, hat⟩ := HI.out.at_ j _ hx
     rw [Nat.zero_add] at hc0
     have hc9 : ∀ q u, (FH.list hh)[q]? = some u → wr.cell? ⟨b9, o1 + j * 4 + q, none⟩ = some u := fun q u hu => (HKW.out.cell (lt_of_cell (hc0 q u hu)) (by simp)).trans (hc0 q u hu)
     obtain ⟨g0, g1, g2', g3⟩ := four_at hc9
     have hmem : (l[j]'(by have := HL.out; omega)) ∈ l := List.getElem_mem _
     generalize hxx : l[j]'(by have := HL.out; omega) = x at *
     obtain ⟨k', B', lb'', cb', s', v'⟩ := hh
     have HXX := Lib.hid hx
     obtain ⟨n2, hn2⟩ : ∃ n2, thruF aloneF (d + 1) n x = some n2 := by
      cases hq : thruF aloneF (d + 1) n x with
      | some n2 => exact ⟨n2, rfl⟩
      | none =>
       have h8 : thruL aloneF (d + 1) (m + 1) (l.take (j + 1)) = none := by
        rw [List.take_add_one, hx]
        show thruL _ _ _ (l.take j ++ [x]) = none
        rw [thruL_snoc, HS.out.cnt]
        exact hq
       have h7 := thruL_none aloneF (d + 1) (l.take (j + 1)) (l.drop (j + 1)) (m + 1) h8
       rw [List.take_append_drop, HTH.out] at h7
       cases h7
     have HN2 := Lib.hid hn2
     have HREC : Hid (∀ X, Keeps [] wr X → Calls Tryz.prog 209 #[.agg #[.int .i64 k', .slice B' lb'' cb', .string ⟨s'.toArray⟩, .string ⟨v'.toArray⟩], .int .i64 ((d : Int) + 1), .pointer (some ⟨gp, 0, none⟩), .pointer (some ⟨gx, 0, none⟩), .pointer (some ⟨gw, 0, none⟩)] X (ThrVQ no n2 x gm gn X)) := fun X hX => by
      have h9 := IH.out x hmem (d + 1) n n2 ⟨k', B', lb'', cb', s', v'⟩ X (by omega) hn200 hat (HKW.out.trans' hX) (HE.out.keep (HS.out.keep.trans hX (by simp))) (HS.out.pass.keep hX (by simp) (by simp)) hn2 (mildL_mem l x HML.out hmem)
      rw [show ((d + 1 : Nat) : Int) = (d : Int) + 1 by omega] at h9
      exact h9
     obtain ⟨e1, e2, e3, _, _, _⟩ := HE.out.keep (HS.out.keep.trans ((Keeps.refl [] wr).alloc (.cells #[.int .i64 k', .slice B' lb'' cb', .string ⟨s'.toArray⟩, .string ⟨v'.toArray⟩] 26)) (by simp))
     have hw : IntKind.i64.wrap ((d : Int) + 1) = ((d : Int) + 1) := IntWalk.i64_in _ (by omega)
     have hji : (j : Int) < (lb : Int) := by omega
     have hj0 : (0 : Int) ≤ (j : Int) := by omega
     clear hx hat hc0 hc9 hxx hmem hn2
     go_wp2_with fail
     refine (HREC.out _ ((Keeps.refl [] wr).alloc _)).mono ?_
     rintro e w6 ⟨h6, rfl, hr6, hp6, hk6⟩
     obtain ⟨c6, n6, k6, A6, la6, ca6, B6, lb6, cb6⟩ := h6
     have HP6 := Lib.hid hp6
     have HR6 := Lib.hid hr6
     have HK6 := Lib.hid hk6
     unfold BH.val
     dsimp only
     have HK7 : Hid (Keeps [gm] wr (w6.alloc (.cells #[.int .u8 (c6 : Int), .int .u8 (n6 : Int), .bool k6, .slice A6 la6 ca6, .slice B6 lb6 cb6] 40))) := (((Keeps.refl [] wr).alloc (.cells #[.int .i64 k', .slice B' lb'' cb', .string ⟨s'.toArray⟩, .string ⟨v'.toArray⟩] 26)).mono (cs := [gm]) (by simp)).trans' hk6 |>.alloc _
     have HROW : Hid ((w6.alloc (.cells #[.int .u8 (c6 : Int), .int .u8 (n6 : Int), .bool k6, .slice A6 la6 ca6, .slice B6 lb6 cb6] 40)).ownsRow (w.heap.size + 2) 40 5 (.slice A j c) j (headsL hs)) := own_keep HS.out.row HK7.out (fun b hb hm => by have := (HS.out.row.lt b hb).1; simp at hm; omega)
     have HSZ : Hid (w.heap.size + 2 ≤ (w6.alloc (.cells #[.int .u8 (c6 : Int), .int .u8 (n6 : Int), .bool k6, .slice A6 la6 ca6, .slice B6 lb6 cb6] 40)).heap.size) := Nat.le_trans HS.out.siz HK7.out.size
     clear hp6 hk6 hr6 g0 g1 g2' g3 e1 e2 e3
     go_wp2_with (at_builtin; refine wpList_append_opt rfl (.tmp 21) (.tmp 27) 38 rfl (w.heap.size + 2) 40 iu _ 5 56 Tryz.underlying38 hiu hzu0 hzu1 hzu2 rfl (by decide) (.slice A j c) j (headsL hs) rfl HROW.out (some ⟨w6.heap.size, 0, none⟩) 1 1 (BH.list ⟨c6, n6, k6, A6, la6, ca6, B6, lb6, cb6⟩) rfl rfl (src_one5 w6 ⟨c6, n6, k6, A6, la6, ca6, B6, lb6, cb6⟩ _) (by intro u hu; simp [BH.list] at hu; rcases hu with rfl | rfl | rfl | rfl | rfl <;> rfl) (by unfold maxLen; omega) (by omega) HSZ.out ?_; intro v8 w8 ho hg8 hs8; obtain ⟨A8, c8, hv8⟩ := own_slice ho; subst hv8; have HY := Lib.hid (HS.out.step hgmw hgnw HXX.out ((Keeps.refl [] wr).alloc _) HN2.out HK6.out HP6.out HR6.out ((Keeps.refl [] w6).alloc _) ho hg8 hs8); have HBX8 := Lib.hid (boxes_on5 HS.out.row HK7.out hg8 (by omega) (by omega) HBX.out); have HRX8 := Lib.hid (boxes_on5 HS.out.row HK7.out hg8 (by omega) (by omega) HRX.out); clear ho hg8 hs8)
     go_roundw
     case rel => exact ⟨A8, j + 1, c8, n2, _, rfl, by go_num, by omega, HY.out, HBX8.out, HRX8.out⟩
     case measure => simp [intOf]; omega
    ·obtain rfl : j = lb := by omega
     have htl : l.take j = l := List.take_of_length_le (by rw [HL.out]; exact Nat.le_refl _)
     have hcn := HS.out.cnt
     rw [htl, HTH.out] at hcn
     injection hcn with hcn
     subst hcn
     have hbl : (valFL l).length = j := by rw [valFL_map, List.length_map]; exact HL.out
     have hit : ItemsAt wr A 0 (valFL l) := items_own HS.out.row HS.out.hsl hbl (fun i y v0 hy hv0 => by
      rw [valFL_map, List.getElem?_map] at hy
      cases hq : l[i]? with
      | none => rw [hq] at hy; cases hy
      | some t0 =>
       rw [hq] at hy
       simp at hy
       subst hy
       exact HS.out.items [] wr (by simp) (Keeps.refl _ _) i t0 v0 (by rw [htl]; exact hq) hv0)
     have hfl := valFL_big l (d + 1) (m + 1) _ HTH.out
     have hle := HLE.out
     have hkk : k = 1 ∨ k = 2 ∨ k = 3 ∨ k = 6 := by
      have h1 := HAL.out
      have h2 := HM45.out.1
      have h3 := HM45.out.2
      omega
     have HCS := Lib.hid (valuewith_is ⟨k, B, j, cb, s, v⟩ A j c (valFL l) wr hbl hit (by omega) (by omega) (by dsimp only; omega) hkk (hG.keep HKW.out))
     obtain ⟨e1, e2, e3, _, _, _⟩ := HE.out.keep HS.out.keep
     obtain ⟨⟨z0, z1, z2, z3⟩, _⟩ := four_facts8 HBX.out
     unfold FH.val tv at HCS
     dsimp only at HCS
     have HM : Hid (valF (.mk k l s v) = valK k s v (valFL l)) := by show _ = _; simp [valF]
     clear hbl hit hfl hle hkk
     go_wp2_with fail
     refine HCS.out.mono ?_
     rintro e w3 ⟨h3, rfl, hr3, hk3⟩
     obtain ⟨c3, n3, k3, A3, la3, ca3, B3, lb3, cb3⟩ := h3
     have HK3 := Lib.hid hk3
     have HB3 := Lib.hid hr3
     have hrr := blk_keep HRX.out hk3 (by simp)
     have HRR := Lib.hid hrr
     obtain ⟨⟨y0, y1, y2, y3, y4⟩, ⟨f0, f1, f2, f3, f4⟩⟩ := five_facts hrr
     have HSZ9 := Lib.hid HS.out.siz
     unfold BH.val
     dsimp only
     clear hr3 hk3 hrr e1 e2 e3 z0 z1 z2 z3
     go_wp2_with fail
     have hrow := five_set (v0 := .int .u8 (c3 : Int)) (v1 := .int .u8 (n3 : Int)) (v2 := .bool k3) (v3 := .slice A3 la3 ca3) (v4 := .slice B3 lb3 cb3) HRR.out
     have hks := five_keep (bs := [w.heap.size + 1]) (v0 := .int .u8 (c3 : Int)) (v1 := .int .u8 (n3 : Int)) (v2 := .bool k3) (v3 := .slice A3 la3 ca3) (v4 := .slice B3 lb3 cb3) (Keeps.refl [w.heap.size + 1] w3) (g := w.heap.size + 1) (.inl (by simp))
     have kw := (HK3.out.mono (cs := [w.heap.size + 1]) (by simp)).trans' hks
     refine ret_ber rfl rfl rfl hrow rfl ⟨⟨c3, n3, k3, A3, la3, ca3, B3, lb3, cb3⟩, rfl, fun E X hE hk => ?_, HS.out.pass.keep kw (by simp; omega) (by simp; omega), HS.out.keep.trans kw (fun x hx => .inr (by rw [List.mem_singleton.1 hx]; omega))⟩
     rw [HM.out]
     refine HB3.out ((w.heap.size + 1) :: E) X (fun x hx => ?_) ((hks.mono (by simp)).trans hk (fun x hx => .inl (List.mem_cons_of_mem _ hx)))
     have h9 := HSZ9.out
     rcases List.mem_cons.1 hx with hx | hx
     ·omega
     ·have := hE x hx; omega
end Go.Proofs.YtbfebljahjmjfaaGreatDoor
/- filter: the value of a filter; walked. -/
namespace Go.Proofs.YtbfebljahjmjfaaGreatDoor
open Go.RowKit Go.Shelf
set_option linter.unusedVariables false
set_option linter.unusedSimpArgs false
set_option maxRecDepth 100000

set_option maxHeartbeats 4000000 in
theorem thrtopV_is (no : Int) (t : FV) (h : FH) (w : World) (hN : NumsAt w) (ht : FilAt w t h) (hr : rightF t = true) (hmi : mildF t = true) :
  Calls Tryz.prog 144 #[h.val, .int .i64 no, .func (.func 145) #[] #[]] w (VwQ (valF t) w) := by
 have hmf : ∀ (fn : Fn) (first cap : Array Value) (w : World), (Instr.makeFunc fn first cap).run Tryz.prog w = .ok (.func fn first cap) w := fun _ _ _ _ => rfl
 have HT := Lib.hid ht
 obtain ⟨nn, hnn⟩ : ∃ n, thruF aloneF 1 0 t = some n := by unfold rightF at hr; exact Option.isSome_iff_exists.1 hr
 have HNN := Lib.hid hnn
 have HN := Lib.hid hN
 have HMI := Lib.hid hmi
 have HGA := Lib.hid (gate8_is no)
 obtain ⟨k, B, lb, cb, s, v⟩ := h
 unfold FH.val tv at *
 dsimp only at *
 clear ht hN hr hmi hnn
 go_enter Tryz.func144, Tryz.ntmps144
 go_wp2_with fail
 have k1 : Keeps [] w (w.alloc (.cells #[.int .i64 k, .slice B lb cb, .string ⟨s.toArray⟩, .string ⟨v.toArray⟩] 26)) := (Keeps.refl [] w).alloc _
 have b1 := heap_new8 w (.cells #[.int .i64 k, .slice B lb cb, .string ⟨s.toArray⟩, .string ⟨v.toArray⟩] 26)
 have k2 : Keeps [] (w.alloc (.cells #[.int .i64 k, .slice B lb cb, .string ⟨s.toArray⟩, .string ⟨v.toArray⟩] 26)) ((w.alloc (.cells #[.int .i64 k, .slice B lb cb, .string ⟨s.toArray⟩, .string ⟨v.toArray⟩] 26)).alloc (.cells #[.func (.func 145) #[] #[]] 177)) := (Keeps.refl [] _).alloc _
 have b2 := heap_new8 (w.alloc (.cells #[.int .i64 k, .slice B lb cb, .string ⟨s.toArray⟩, .string ⟨v.toArray⟩] 26)) (.cells #[.func (.func 145) #[] #[]] 177)
 have k3 : Keeps [] ((w.alloc (.cells #[.int .i64 k, .slice B lb cb, .string ⟨s.toArray⟩, .string ⟨v.toArray⟩] 26)).alloc (.cells #[.func (.func 145) #[] #[]] 177)) (((w.alloc (.cells #[.int .i64 k, .slice B lb cb, .string ⟨s.toArray⟩, .string ⟨v.toArray⟩] 26)).alloc (.cells #[.func (.func 145) #[] #[]] 177)).alloc ber0) := (Keeps.refl [] _).alloc _
 have b3 := heap_new8 ((w.alloc (.cells #[.int .i64 k, .slice B lb cb, .string ⟨s.toArray⟩, .string ⟨v.toArray⟩] 26)).alloc (.cells #[.func (.func 145) #[] #[]] 177)) ber0
 have HBF := Lib.hid (blk_keep (blk_keep b1 k2 (by simp)) k3 (by simp))
 have HBW := Lib.hid (blk_keep b2 k3 (by simp))
 have HBR := Lib.hid b3
 have HKB := Lib.hid (k1.trans' (k2.trans' k3))
 have HZ : Hid ((((w.alloc (.cells #[.int .i64 k, .slice B lb cb, .string ⟨s.toArray⟩, .string ⟨v.toArray⟩] 26)).alloc (.cells #[.func (.func 145) #[] #[]] 177)).alloc ber0).heap.size = w.heap.size + 3) := by show _ = _; simp
 simp only [World.size_alloc] at HBW HBR
 clear k1 k2 k3 b1 b2 b3
 generalize ((w.alloc (.cells #[.int .i64 k, .slice B lb cb, .string ⟨s.toArray⟩, .string ⟨v.toArray⟩] 26)).alloc (.cells #[.func (.func 145) #[] #[]] 177)).alloc ber0 = W1 at HBF HBW HBR HKB HZ ⊢
 refine (HGA.out W1).mono ?_
 rintro e w1 ⟨rfl, hp1, hk1⟩
 have HP1 := Lib.hid hp1
 have HK1 := Lib.hid hk1
 clear hp1 hk1 HGA
 have k4 : Keeps [] w1 (w1.alloc (.cells #[.func (.func 134) #[] #[.pointer (some ⟨W1.heap.size + 1, 0, none⟩), .pointer (some ⟨W1.heap.size, 0, none⟩)]] 114)) := (Keeps.refl [] w1).alloc _
 have b4 := heap_new8 w1 (.cells #[.func (.func 134) #[] #[.pointer (some ⟨W1.heap.size + 1, 0, none⟩), .pointer (some ⟨W1.heap.size, 0, none⟩)]] 114)
 have k5 : Keeps [] (w1.alloc (.cells #[.func (.func 134) #[] #[.pointer (some ⟨W1.heap.size + 1, 0, none⟩), .pointer (some ⟨W1.heap.size, 0, none⟩)]] 114)) ((w1.alloc (.cells #[.func (.func 134) #[] #[.pointer (some ⟨W1.heap.size + 1, 0, none⟩), .pointer (some ⟨W1.heap.size, 0, none⟩)]] 114)).alloc (.cells #[.func (.func 209) #[] #[.pointer (some ⟨w1.heap.size, 0, none⟩), .pointer (some ⟨w1.heap.size + 1, 0, none⟩), .pointer (some ⟨w.heap.size + 1, 0, none⟩)]] 230)) := (Keeps.refl [] _).alloc _
 have b5 := heap_new8 (w1.alloc (.cells #[.func (.func 134) #[] #[.pointer (some ⟨W1.heap.size + 1, 0, none⟩), .pointer (some ⟨W1.heap.size, 0, none⟩)]] 114)) (.cells #[.func (.func 209) #[] #[.pointer (some ⟨w1.heap.size, 0, none⟩), .pointer (some ⟨w1.heap.size + 1, 0, none⟩), .pointer (some ⟨w.heap.size + 1, 0, none⟩)]] 230)
 have HBP := Lib.hid (blk_keep b4 k5 (by simp))
 have HBN := Lib.hid b5
 have HK5 := Lib.hid (k4.trans' k5)
 simp only [World.size_alloc] at HBN
 clear k4 k5 b4 b5
 have HBF5 := Lib.hid (blk_keep (blk_keep HBF.out HK1.out (by simp)) HK5.out (by simp))
 obtain ⟨⟨z0, z1, z2, z3⟩, _⟩ := four_facts8 HBF5.out
 have y0 := cell_of_blk HBN.out 0
 go_wp2_with fail
 generalize (w1.alloc (.cells #[.func (.func 134) #[] #[.pointer (some ⟨W1.heap.size + 1, 0, none⟩), .pointer (some ⟨W1.heap.size, 0, none⟩)]] 114)).alloc (.cells #[.func (.func 209) #[] #[.pointer (some ⟨w1.heap.size, 0, none⟩), .pointer (some ⟨w1.heap.size + 1, 0, none⟩), .pointer (some ⟨w.heap.size + 1, 0, none⟩)]] 230) = W5 at HBP HBN HK5 HBF5 z0 z1 z2 z3 y0 ⊢
 have hzw := HZ.out
 have hz1 := HK1.out.size
 have HKA := Lib.hid (HKB.out.trans' (HK1.out.trans' HK5.out))
 have HREC := Lib.hid (thrV_is w1.heap.size (w1.heap.size + 1) (w.heap.size + 1) (W1.heap.size + 1) W1.heap.size no w (by omega) HN.out t 1 0 nn ⟨k, B, lb, cb, s, v⟩ W5 (by decide) (by decide) HT.out HKA.out ⟨cell_of_blk HBP.out 0, cell_of_blk HBN.out 0, cell_of_blk (blk_keep (blk_keep HBW.out HK1.out (by simp)) HK5.out (by simp)) 0, by have := lt_of_heap HP1.out.many; omega, by have := lt_of_heap HP1.out.many; omega, by omega⟩ (HP1.out.keep HK5.out (by simp) (by simp)) HNN.out HMI.out)
 unfold FH.val tv at HREC
 dsimp only at HREC
 refine HREC.out.mono ?_
 rintro e w6 ⟨h', rfl, hr6, _, hk6⟩
 have HR6 := Lib.hid hr6
 have HK6 := Lib.hid hk6
 have HBR6 := Lib.hid (blk_keep (blk_keep (blk_keep HBR.out HK1.out (by simp)) HK5.out (by simp)) hk6 (by simp; omega))
 obtain ⟨⟨r0, r1, r2, r3, r4⟩, s0, s1, s2, s3, s4⟩ := five_facts HBR6.out
 obtain ⟨c', n', k', A', la', ca', B', lb', cb'⟩ := h'
 unfold BH.val
 dsimp only
 obtain ⟨R, hR⟩ : ∃ R, w.heap.size + 1 + 1 = R := ⟨_, rfl⟩
 have HRR := Lib.hid hR
 rw [hR] at HBR6 r0 r1 r2 r3 r4 s0 s1 s2 s3 s4 ⊢
 clear hr6 hk6 hR z0 z1 z2 z3 y0
 go_wp2_with fail
 have hrow := five_set (v0 := .int .u8 (c' : Int)) (v1 := .int .u8 (n' : Int)) (v2 := .bool k') (v3 := .slice A' la' ca') (v4 := .slice B' lb' cb') HBR6.out
 have k9 := five_keep (bs := [R]) (v0 := .int .u8 (c' : Int)) (v1 := .int .u8 (n' : Int)) (v2 := .bool k') (v3 := .slice A' la' ca') (v4 := .slice B' lb' cb') (Keeps.refl [R] w6) (g := R) (.inl (by simp))
 have hRe := HRR.out
 have hz5 := HK5.out.size
 refine ret_ber rfl rfl rfl hrow rfl ⟨⟨c', n', k', A', la', ca', B', lb', cb'⟩, rfl, fun E X hE hk => HR6.out (R :: E) X (fun x hx => ?_) ((k9.mono (cs := R :: E) (by simp)).trans hk (fun x hx => .inl (List.mem_cons_of_mem _ hx))), (HKA.out.trans HK6.out (fun x hx => .inr (by rw [List.mem_singleton.1 hx]; omega))).trans k9 (fun x hx => .inr (by rw [List.mem_singleton.1 hx]; omega))⟩
 rcases List.mem_cons.1 hx with hx | hx
 ·omega
 ·have := hE x hx
  omega
set_option maxHeartbeats 4000000 in
theorem valueof8_is (t : FV) (h : FH) (w : World) (hN : NumsAt w) (ht : FilAt w t h) (hr : rightF t = true) (hmi : mildF t = true) :
  Calls Tryz.prog 90 #[h.val] w (VwQ (valF t) w) := by
 have HT := Lib.hid (fun X (hX : Keeps [] w X) => thrtopV_is 2 t h X (hN.keep hX) (FilAt.grow hX t h ht) hr hmi)
 obtain ⟨k, B, lb, cb, s, v⟩ := h
 unfold FH.val tv at *
 dsimp only at *
 clear ht hN hr hmi
 have hka : Keeps [] w (w.alloc (.cells #[.int .i64 k, .slice B lb cb, .string ⟨s.toArray⟩, .string ⟨v.toArray⟩] 26)) := (Keeps.refl [] w).alloc _
 have hb0 := heap_new8 w (.cells #[.int .i64 k, .slice B lb cb, .string ⟨s.toArray⟩, .string ⟨v.toArray⟩] 26)
 have HB0 := Lib.hid (blk_keep hb0 ((Keeps.refl [] _).alloc ber0) (by simp))
 have hr0 := heap_new8 (w.alloc (.cells #[.int .i64 k, .slice B lb cb, .string ⟨s.toArray⟩, .string ⟨v.toArray⟩] 26)) ber0
 rw [World.size_alloc] at hr0
 have HR0 := Lib.hid hr0
 have HK0 := Lib.hid (hka.alloc ber0)
 obtain ⟨⟨z0, z1, z2, z3⟩, _⟩ := four_facts8 HB0.out
 clear hka hb0 hr0
 go_enter Tryz.func90, Tryz.ntmps90
 go_wp2_with fail
 refine (HT.out _ HK0.out).mono ?_
 rintro e w1 ⟨h', rfl, hb1, hk1⟩
 have HK1 := Lib.hid (HK0.out.trans' hk1)
 have HB1 := Lib.hid hb1
 have HR1 := Lib.hid (blk_keep HR0.out hk1 (by simp))
 obtain ⟨⟨r0, r1, r2, r3, r4⟩, s0, s1, s2, s3, s4⟩ := five_facts HR1.out
 obtain ⟨c', n', k', A', la', ca', B', lb', cb'⟩ := h'
 unfold BH.val
 dsimp only
 clear hb1 hk1 z0 z1 z2 z3
 go_wp2_with fail
 have hrow := five_set (v0 := .int .u8 (c' : Int)) (v1 := .int .u8 (n' : Int)) (v2 := .bool k') (v3 := .slice A' la' ca') (v4 := .slice B' lb' cb') HR1.out
 have k9 := five_keep (bs := [w.heap.size + 1]) (v0 := .int .u8 (c' : Int)) (v1 := .int .u8 (n' : Int)) (v2 := .bool k') (v3 := .slice A' la' ca') (v4 := .slice B' lb' cb') (Keeps.refl [w.heap.size + 1] w1) (g := w.heap.size + 1) (.inl (by simp))
 refine ret_ber rfl rfl rfl hrow rfl ⟨⟨c', n', k', A', la', ca', B', lb', cb'⟩, rfl, fun E X hE hk => HB1.out ((w.heap.size + 1) :: E) X (fun x hx => ?_) ((k9.mono (by simp)).trans hk (fun x hx => .inl (List.mem_cons_of_mem _ hx))), HK1.out.trans k9 (fun x hx => .inr (by rw [List.mem_singleton.1 hx]; omega))⟩
 rw [World.size_alloc, World.size_alloc]
 rcases List.mem_cons.1 hx with hx | hx
 ·omega
 ·have := hE x hx; omega
end Go.Proofs.YtbfebljahjmjfaaGreatDoor
