import Derived.Test.YtbfebljahjmjfaaGreatDoorQ17
import Derived.BigQuiet
/- filter: the text of a filter: through with texts; walked. -/
namespace Go.Proofs.YtbfebljahjmjfaaGreatDoor
open Go.RowKit Go.Shelf
set_option linter.unusedVariables false
set_option linter.unusedSimpArgs false
set_option maxRecDepth 100000

mutual
/-- The text of a filter. -/
def textF : FV → Txt
 | .mk k l s v => textK k s v (textFL l)
def textFL : List FV → List Txt
 | [] => []
 | t :: r => textF t :: textFL r
end
theorem textFL_map : ∀ l : List FV, textFL l = l.map textF
 | [] => by simp [textFL]
 | t :: r => by simp [textFL, textFL_map r]
theorem textK_len (k : Int) (s v : Txt) (of : List Txt) : (textK k s v of).length ≤ 4 + s.length + 3 * v.length + of.flatten.length := by
 have := valT_len v
 unfold textK
 split
 ·simp; omega
 ·split
  ·simp; omega
  ·have : (sgnT k).length = 1 := by
    unfold sgnT
    split
    ·rfl
    ·split <;> rfl
   simp
   omega
theorem alone_lens {k : Int} {n : Nat} {s v : Txt} (h : aloneH k n s v = true) : s.length ≤ 64 ∧ v.length ≤ 2048 ∧ (4 ≤ k → 0 < s.length) := by
 have hn : ∀ x : Txt, nameT x = true → 1 ≤ x.length ∧ x.length ≤ 64 := fun x hx => by
  unfold nameT at hx
  simp only [Bool.and_eq_true, decide_eq_true_eq] at hx
  exact ⟨hx.1, hx.2.1⟩
 have he : ∀ x : Txt, x.isEmpty = true → x.length = 0 := fun x hx => by cases x with | nil => rfl | cons a b => cases hx
 unfold aloneH at h
 split at h
 ·rw [Bool.and_eq_true] at h
  have := he s h.1
  have := he v h.2
  omega
 ·split at h
  ·simp only [Bool.and_eq_true] at h
   have := he s h.1
   have := he v h.2.1
   omega
  ·split at h
   ·simp only [Bool.and_eq_true] at h
    have h1 := hn s h.2.1
    have h2 := h.2.2
    unfold valOk at h2
    simp only [Bool.and_eq_true, decide_eq_true_eq] at h2
    omega
   ·split at h
    ·simp only [Bool.and_eq_true] at h
     have h1 := hn s h.2.2
     have := he v h.2.1
     omega
    ·cases h
mutual
theorem textF_len : ∀ (t : FV) (d m n : Nat), thruF aloneF d m t = some n → (textF t).length ≤ 7000 * (n - m)
 | .mk k l s v, d, m, n, h => by
  obtain ⟨h1, h2, h3, h4⟩ := thruF_le aloneF _ _ _ _ h
  rw [thrF_in ⟨h2, h3⟩] at h
  cases hq : thruL aloneF (d + 1) (m + 1) l with
  | none => rw [hq] at h; cases h
  | some n' =>
   rw [hq] at h
   dsimp only at h
   split at h
   ·rename_i ha
    injection h with h
    subst h
    rw [aloneF_is] at ha
    have h5 := textFL_len l (d + 1) (m + 1) n' hq
    have h6 := alone_lens ha
    have h7 := textK_len k s v (textFL l)
    simp only [textF]
    omega
   ·cases h
theorem textFL_len : ∀ (l : List FV) (d m n : Nat), thruL aloneF d m l = some n → (textFL l).flatten.length ≤ 7000 * (n - m)
 | [], d, m, n, h => by simp [textFL]
 | t :: r, d, m, n, h => by
  simp only [thruL] at h
  cases hq : thruF aloneF d m t with
  | none => rw [hq] at h; cases h
  | some n' =>
   rw [hq] at h
   have h1 := textF_len t d m n' hq
   have h2 := textFL_len r d n' n h
   have h3 := (thruF_le aloneF _ _ _ _ hq).1
   have h4 := (thruL_le aloneF _ _ _ _ h).1
   simp only [textFL, List.flatten_cons, List.length_append]
   omega
end
/-- A text in memory. -/
def TxtAt (X : World) (y : Txt) (v : Value) : Prop := ∃ A c, v = .slice A y.length c ∧ BytesAt X v y
theorem txs_own {X : World} {base n d : Nat} {g : Option Addr} {hs : List Value} {ys : List Txt} (ho : X.ownsRow base 37 1 (.slice g n d) n hs) (hn : hs.length = n) (hl : ys.length = n) (hb : ∀ (i : Nat) (y : Txt) (v : Value), ys[i]? = some y → hs[i]? = some v → TxtAt X y v) : TxsIn X g n ys := by
 refine ⟨hl, fun hp => ?_⟩
 rcases ho.2 with ⟨_, h0⟩ | ⟨k, cap, cur, hv, _⟩
 ·omega
 ·injection hv with e1 e2 e3
  subst e1
  refine ⟨k, 0, rfl, fun i y hi => ?_⟩
  have hi' : i < n := by have := (List.getElem?_eq_some_iff.1 hi).1; omega
  have hh : hs[i]? = some (hs[i]'(by omega)) := List.getElem?_eq_getElem _
  obtain ⟨A, c, e, h4⟩ := hb i y _ hi hh
  have h9 := ho.cells (g := k) rfl i _ hh
  rw [add_at] at h9
  rw [e] at h9 h4
  exact ⟨A, c, h9, h4⟩
theorem bytes_info8 : (Tryz.prog.info? 37).map (fun i => (i.zero, i.size, i.bytes)) = some (some (.slice none 0 0), 1, 24) := by kernel_rfl
theorem src_onet (w : World) (A : Option Addr) (n c : Nat) (t : TypeId) : Src (w.alloc (.cells #[.slice A n c] t)) (some ⟨w.heap.size, 0, none⟩) 1 [.slice A n c] := by
 refine ⟨(fun h => by cases h), fun ad hA j u hu => ?_⟩
 cases hA
 rw [add_at, Nat.zero_add, World.cell?_alloc_new]
 simpa using hu
/-- What a round finds. -/
structure ThrTS (w wr : World) (gm gn : Nat) (no : Int) (d m : Nat) (l : List FV) (j : Nat) (A : Option Addr) (c : Nat) (hs : List Value) (n : Nat) : Prop where
 cnt : thruL aloneF (d + 1) (m + 1) (l.take j) = some n
 pass : PassAt wr gm gn n no
 row : wr.ownsRow (w.heap.size + 1) 37 1 (.slice A j c) j hs
 hsl : hs.length = j
 items : ∀ (E : List Nat) X, (∀ x ∈ E, x < w.heap.size + 1 ∨ (Value.slice A j c).ownBlock = some x) → Keeps E wr X → ∀ (i : Nat) (t : FV) (h : Value), (l.take j)[i]? = some t → hs[i]? = some h → TxtAt X (textF t) h
 keep : Keeps [gm] w wr
 siz : w.heap.size + 1 ≤ wr.heap.size
theorem ThrTS.step {w wr w5 w6 w7 w8 : World} {gm gn : Nat} {no : Int} {d m : Nat} {l : List FV} {j : Nat} {A A8 : Option Addr} {c c8 : Nat} {hs : List Value} {n n' : Nat} (H : ThrTS w wr gm gn no d m l j A c hs n) (hgm : gm < w.heap.size) (hgn : gn < w.heap.size)
  {t : FV} {h : Value} (ht : l[j]? = some t) (k5 : Keeps [] wr w5) (hn : thruF aloneF (d + 1) n t = some n') (k6 : Keeps [gm] w5 w6) (hp6 : PassAt w6 gm gn n' no) (hp : ∀ (E : List Nat) X, (∀ x ∈ E, x < w5.heap.size) → Keeps E w6 X → TxtAt X (textF t) h) (k7 : Keeps [] w6 w7)
  (ho : w8.ownsRow (w.heap.size + 1) 37 1 (.slice A8 (j + 1) c8) (j + 1) (hs ++ [h])) (hg : w7.grownBy w8 (Value.slice A j c).ownBlock) (hs8 : (Value.slice A8 (j + 1) c8).ownBlock = (Value.slice A j c).ownBlock ∨ (Value.slice A8 (j + 1) c8).ownBlock = some w7.heap.size) :
  ThrTS w w8 gm gn no d m l (j + 1) A8 c8 (hs ++ [h]) n' := by
 have hz5 := k5.size
 have hz6 := k6.size
 have hz7 := k7.size
 have hsz := H.siz
 have k8 : Keeps (Value.slice A j c).ownBlock.toList w7 w8 := Keeps.of_grown hg (fun x hx => .inl (by rw [hx]; simp))
 have hz8 := k8.size
 have hvl : ∀ x ∈ (Value.slice A j c).ownBlock.toList, w.heap.size + 1 ≤ x ∧ x < wr.heap.size := fun x hx => H.row.lt x (by simpa using hx)
 have k68 : Keeps (Value.slice A j c).ownBlock.toList w6 w8 := (k7.mono (by simp)).trans k8 (fun x hx => .inl hx)
 have kr8 : Keeps (gm :: (Value.slice A j c).ownBlock.toList) wr w8 := ((k5.mono (cs := [gm]) (by simp)).trans' k6 |>.mono (cs := gm :: (Value.slice A j c).ownBlock.toList) (by simp)).trans k68 (fun x hx => .inl (List.mem_cons_of_mem _ hx))
 have htk : l.take (j + 1) = l.take j ++ [t] := by rw [List.take_add_one, ht]; rfl
 refine ⟨by rw [htk, thruL_snoc, H.cnt]; exact hn, hp6.keep k68 (fun hm => by have := hvl gm hm; omega) (fun hm => by have := hvl gn hm; omega), ho, by simp [H.hsl], fun E X hE hk i t' h' ht' hh' => ?_, H.keep.trans kr8 (fun x hx => ?_), by omega⟩
 ·have hcase : ∀ x ∈ E, x < wr.heap.size ∨ w7.heap.size ≤ x := fun x hx => by
   rcases hE x hx with h9 | h9
   ·exact .inl (by omega)
   ·rcases hs8 with h10 | h10
    ·rw [h10] at h9
     exact .inl (hvl x (by rw [h9]; simp)).2
    ·rw [h10] at h9
     injection h9 with h9
     exact .inr (by omega)
  have hold : ∀ x ∈ E, x < wr.heap.size → x < w.heap.size + 1 ∨ (Value.slice A j c).ownBlock = some x := fun x hx hlt => by
   rcases hE x hx with h9 | h9
   ·exact .inl h9
   ·rcases hs8 with h10 | h10
    ·rw [h10] at h9; exact .inr h9
    ·rw [h10] at h9
     injection h9 with h9
     omega
  rw [htk] at ht'
  have hjl : (l.take j).length = j := by
   rw [List.length_take]
   have := (List.getElem?_eq_some_iff.1 ht).1
   omega
  by_cases hj : i < j
  ·rw [List.getElem?_append_left (by rw [hjl]; exact hj)] at ht'
   rw [List.getElem?_append_left (by rw [H.hsl]; exact hj)] at hh'
   have kX : Keeps ((gm :: (Value.slice A j c).ownBlock.toList) ++ E.filter (fun x => decide (x < wr.heap.size))) wr X := by
    have k10 : Keeps ((gm :: (Value.slice A j c).ownBlock.toList) ++ E.filter (fun x => decide (x < wr.heap.size))) wr w8 := kr8.mono (fun x hx => .inl (List.mem_append_left _ hx))
    refine k10.trans hk (fun x hx => ?_)
    rcases hcase x hx with h9 | h9
    ·exact .inl (List.mem_append_right _ (List.mem_filter.2 ⟨hx, by simpa using h9⟩))
    ·exact .inr (by omega)
   refine H.items _ X (fun x hx => ?_) kX i t' h' ht' hh'
   rcases List.mem_append.1 hx with hx | hx
   ·simp only [List.mem_cons] at hx
    rcases hx with hx | hx
    ·exact .inl (by omega)
    ·exact .inr (by simpa using hx)
   ·obtain ⟨h9, h10⟩ := List.mem_filter.1 hx
    exact hold x h9 (by simpa using h10)
  ·have hja : i = j := by
    have := (List.getElem?_eq_some_iff.1 ht').1
    simp at this
    omega
   subst hja
   rw [List.getElem?_append_right (by rw [hjl]; exact Nat.le_refl _), hjl] at ht'
   rw [List.getElem?_append_right (by rw [H.hsl]; exact Nat.le_refl _), H.hsl] at hh'
   simp at ht' hh'
   subst ht' hh'
   have kX : Keeps ((Value.slice A i c).ownBlock.toList ++ E.filter (fun x => decide (x < wr.heap.size))) w6 X := by
    have k10 : Keeps ((Value.slice A i c).ownBlock.toList ++ E.filter (fun x => decide (x < wr.heap.size))) w6 w8 := k68.mono (fun x hx => .inl (List.mem_append_left _ hx))
    refine k10.trans hk (fun x hx => ?_)
    rcases hcase x hx with h9 | h9
    ·exact .inl (List.mem_append_right _ (List.mem_filter.2 ⟨hx, by simpa using h9⟩))
    ·exact .inr (by omega)
   refine hp _ X (fun x hx => ?_) kX
   rcases List.mem_append.1 hx with hx | hx
   ·have := (hvl x hx).2; omega
   ·have : x < wr.heap.size := by simpa using (List.mem_filter.1 hx).2
    omega
 ·simp only [List.mem_cons] at hx
  rcases hx with hx | hx
  ·exact .inl (by simp [hx])
  ·exact .inr (by have := (hvl x hx).1; omega)
/-- How textOf's through ends. -/
def ThrTQ (no : Int) (n : Nat) (t : FV) (gm gn : Nat) (w : World) (e : Ending) (w' : World) : Prop :=
 ∃ A c, e = .returned (.slice A (textF t).length c) ∧ (∀ (E : List Nat) X, (∀ x ∈ E, x < w.heap.size) → Keeps E w' X → BytesAt X (.slice A (textF t).length c) (textF t)) ∧ PassAt w' gm gn n no ∧ Keeps [gm] w w'
set_option maxHeartbeats 16000000 in
theorem thrT_is (gp gx gw gm gn : Nat) (no : Int) (w0 : World) (hgm0 : w0.heap.size ≤ gm) (hG : SgnAt w0) : ∀ (t : FV) (d m nn : Nat) (h : FH) (w : World), d ≤ 17 → m ≤ 200 → FilAt w0 t h → Keeps [] w0 w →
  EnvF gp gx gw gm gn 199 (.func (.func 131) #[] #[]) w → PassAt w gm gn m no → thruF aloneF d m t = some nn →
  Calls Tryz.prog 199 #[h.val, .int .i64 (d : Int), .pointer (some ⟨gp, 0, none⟩), .pointer (some ⟨gx, 0, none⟩), .pointer (some ⟨gw, 0, none⟩)] w (ThrTQ no nn t gm gn w) := by
 obtain ⟨iu, hiu, hzu0, hzu1, hzu2⟩ := info_parts bytes_info8
 intro t
 induction t using FV.ind with
 | h k l s v ih =>
  intro d m nn h w hd hm ht hk0 hE hP hthr
  have IH := Lib.hid ih
  have hgmw := lt_of_heap hP.many
  have hgnw := lt_of_heap hP.no
  obtain ⟨hC1, hC2, hC3, _⟩ := thruF_le aloneF _ _ _ _ hthr
  rw [thrF_in ⟨hC2, hC3⟩] at hthr
  obtain ⟨n9, hn9, hal9⟩ : ∃ n9, thruL aloneF (d + 1) (m + 1) l = some n9 ∧ aloneF (.mk k l s v) = true ∧ n9 = nn := by
   cases hq : thruL aloneF (d + 1) (m + 1) l with
   | none => rw [hq] at hthr; cases hthr
   | some n9 =>
    rw [hq] at hthr
    dsimp only at hthr
    split at hthr
    ·rename_i ha
     injection hthr with hthr
     exact ⟨n9, rfl, ha, hthr⟩
    ·cases hthr
  obtain ⟨hal, rfl⟩ := hal9
  rw [aloneF_is] at hal
  have HPS := Lib.hid (fun X hX => pass8_is d gm gn m no X (by omega) (by omega) hX)
  obtain ⟨rfl, rfl, rfl, h4, h5, h6, h7, h8, h9, h10, h11⟩ := ht
  obtain ⟨k, B, lb, cb, s, v⟩ := h
  have hl : l.length = lb := h8
  have hlb : lb ≤ 9223372036854775807 := Nat.le_trans h9 h10
  dsimp only at h6 h7 hal
  rw [hl] at hal
  have HAL := Lib.hid (alone_kinds hal)
  have HLE := Lib.hid (alone_lens hal)
  have HSL : Hid (s.length ≤ 9223372036854775807 ∧ v.length ≤ 9223372036854775807) := ⟨h6, h7⟩
  have HTH := Lib.hid hn9
  have HI := Lib.hid h11
  have HL := Lib.hid hl
  have HK0 := Lib.hid hk0
  have HE := Lib.hid hE
  have HP := Lib.hid hP
  have HB1 := Lib.hid (heap_new8 w (.cells #[.int .i64 k, .slice B lb cb, .string ⟨s.toArray⟩, .string ⟨v.toArray⟩] 26))
  have HKB : Hid (Keeps [] w (w.alloc (.cells #[.int .i64 k, .slice B lb cb, .string ⟨s.toArray⟩, .string ⟨v.toArray⟩] 26))) := (Keeps.refl [] w).alloc _
  have HZ : Hid (w.heap.size + 1 ≤ (w.alloc (.cells #[.int .i64 k, .slice B lb cb, .string ⟨s.toArray⟩, .string ⟨v.toArray⟩] 26)).heap.size) := by show _ ≤ _; simp
  clear h4 h5 h6 h7 h8 h9 h10 h11 hl hk0 hE hP ih hal hn9 hthr
  unfold FH.val tv
  dsimp only
  have HEW := HE.out.keep (HKB.out.mono (cs := [gm]) (by simp))
  obtain ⟨e1, e2, e3, _, _, _⟩ := HEW
  go_enter Tryz.func199, Tryz.ntmps199
  go_wp2_with fail
  have HP1 := Lib.hid (HP.out.keep HKB.out (by simp) (by simp))
  generalize w.alloc (.cells #[.int .i64 k, .slice B lb cb, .string ⟨s.toArray⟩, .string ⟨v.toArray⟩] 26) = W1 at HKB HB1 HZ HP1 e1 e2 e3 ⊢
  refine (HPS.out W1 HP1.out).mono ?_
  rintro e w2 ⟨⟨hc, rfl⟩ | ⟨hc, rfl⟩, hp2, hk2⟩
  rotate_left
  ·exact absurd ⟨hC2, hC3⟩ hc
  ·have HK2 := Lib.hid ((HKB.out.mono (cs := [gm]) (by simp)).trans' hk2)
   have HB3 := Lib.hid (blk_keep HB1.out hk2 (by simp; omega))
   have HS0 : Hid (ThrTS w w2 gm gn no d m l 0 none 0 [] (m + 1)) := ⟨by simp [thruL], hp2, World.ownsRow_nil _ _ _ _, rfl, by simp, HK2.out, Nat.le_trans HZ.out hk2.size⟩
   obtain ⟨⟨z0, z1, z2, z3⟩, _⟩ := four_facts8 HB3.out
   clear hc hk2 hp2 e1 e2 e3
   go_wp2_with fail
   go_loopw [8, 17] (fun a i wr => ∃ (A : Option Addr) (j c n : Nat) (hs : List Value), a = .slice A j c ∧ i = .int .i64 (j : Int) ∧ j ≤ lb ∧ Hid (ThrTS w wr gm gn no d m l j A c hs n) ∧ Hid (wr.heap[w.heap.size]? = some (.cells #[.int .i64 k, .slice B lb cb, .string ⟨s.toArray⟩, .string ⟨v.toArray⟩] 26 (0, 0)))) (fun _ i _ => lb - (intOf i).toNat)
   case atStart => exact ⟨none, 0, 0, m + 1, [], rfl, rfl, Nat.zero_le _, HS0.out, HB3.out⟩
   clear z0 z1 z2 z3
   case round =>
    obtain ⟨A, j, c, n, hs, rfl, rfl, hj, HS, HBX⟩ := hrel
    have hn200 := (thruL_le aloneF _ _ _ _ HS.out.cnt).2 (by omega)
    have hjn : j ≤ 200 := by
     have h8 := (thruL_le aloneF _ _ _ _ HS.out.cnt).1
     rw [List.length_take, HL.out, Nat.min_eq_left hj] at h8
     omega
    have HKW : Hid (Keeps [] w0 wr) := HK0.out.trans HS.out.keep (fun x hx => .inr (by rw [List.mem_singleton.1 hx]; exact hgm0))
    have hgr := lt_of_heap HS.out.pass.many
    by_cases hlt : j < lb
    ·have hx : l[j]? = some (l[j]'(by have := HL.out; omega)) := List.getElem?_eq_getElem _
     obtain ⟨b9, o1, hh, rfl, hc0, hat⟩ := HI.out.at_ j _ hx
     rw [Nat.zero_add] at hc0
     have hc9 : ∀ q u, (FH.list hh)[q]? = some u → wr.cell? ⟨b9, o1 + j * 4 + q, none⟩ = some u := fun q u hu => (HKW.out.cell (lt_of_cell (hc0 q u hu)) (by simp)).trans (hc0 q u hu)
     obtain ⟨g0, g1, g2', g3⟩ := four_at hc9
     have hmem : (l[j]'(by have := HL.out; omega)) ∈ l := List.getElem_mem _
     generalize hxx : l[j]'(by have := HL.out; omega) = x at *
     obtain ⟨k', B', lb'', cb', s', v'⟩ := hh
     have HXX := Lib.hid hx
     obtain ⟨n2, hn2⟩ : ∃ n2, thruF aloneF (d + 1) n x = some n2 := by
      cases hq : thruF aloneF (d + 1) n x with
      | some n2 => exact ⟨n2, rfl⟩
      | none =>
       have h8 : thruL aloneF (d + 1) (m + 1) (l.take (j + 1)) = none := by
        rw [List.take_add_one, hx]
        show thruL _ _ _ (l.take j ++ [x]) = none
        rw [thruL_snoc, HS.out.cnt]
        exact hq
       have h7 := thruL_none aloneF (d + 1) (l.take (j + 1)) (l.drop (j + 1)) (m + 1) h8
       rw [List.take_append_drop, HTH.out] at h7
       cases h7
     have HN2 := Lib.hid hn2
     have HREC : Hid (∀ X, Keeps [] wr X → Calls Tryz.prog 199 #[.agg #[.int .i64 k', .slice B' lb'' cb', .string ⟨s'.toArray⟩, .string ⟨v'.toArray⟩], .int .i64 ((d : Int) + 1), .pointer (some ⟨gp, 0, none⟩), .pointer (some ⟨gx, 0, none⟩), .pointer (some ⟨gw, 0, none⟩)] X (ThrTQ no n2 x gm gn X)) := fun X hX => by
      have h9 := IH.out x hmem (d + 1) n n2 ⟨k', B', lb'', cb', s', v'⟩ X (by omega) hn200 hat (HKW.out.trans' hX) (HE.out.keep (HS.out.keep.trans hX (by simp))) (HS.out.pass.keep hX (by simp) (by simp)) hn2
      rw [show ((d + 1 : Nat) : Int) = (d : Int) + 1 by omega] at h9
      exact h9
     obtain ⟨e1, e2, e3, _, _, _⟩ := HE.out.keep (HS.out.keep.trans ((Keeps.refl [] wr).alloc (.cells #[.int .i64 k', .slice B' lb'' cb', .string ⟨s'.toArray⟩, .string ⟨v'.toArray⟩] 26)) (by simp))
     have hw : IntKind.i64.wrap ((d : Int) + 1) = ((d : Int) + 1) := IntWalk.i64_in _ (by omega)
     have hji : (j : Int) < (lb : Int) := by omega
     have hj0 : (0 : Int) ≤ (j : Int) := by omega
     clear hx hat hc0 hc9 hxx hmem hn2
     go_wp2_with fail
     refine (HREC.out _ ((Keeps.refl [] wr).alloc _)).mono ?_
     rintro e w6 ⟨A6, c6, rfl, hr6, hp6, hk6⟩
     have HP6 := Lib.hid hp6
     have HR6 := Lib.hid hr6
     have HK6 := Lib.hid hk6
     obtain ⟨n6, hn6⟩ : ∃ n6, (textF x).length = n6 := ⟨_, rfl⟩
     have HN6 := Lib.hid hn6
     rw [hn6]
     have HK7 : Hid (Keeps [gm] wr (w6.alloc (.cells #[.slice A6 n6 c6] 37))) := (((Keeps.refl [] wr).alloc (.cells #[.int .i64 k', .slice B' lb'' cb', .string ⟨s'.toArray⟩, .string ⟨v'.toArray⟩] 26)).mono (cs := [gm]) (by simp)).trans' hk6 |>.alloc _
     have HROW : Hid ((w6.alloc (.cells #[.slice A6 n6 c6] 37)).ownsRow (w.heap.size + 1) 37 1 (.slice A j c) j hs) := own_keep HS.out.row HK7.out (fun b hb hm => by have := (HS.out.row.lt b hb).1; simp at hm; omega)
     have HSZ : Hid (w.heap.size + 1 ≤ (w6.alloc (.cells #[.slice A6 n6 c6] 37)).heap.size) := Nat.le_trans HS.out.siz HK7.out.size
     have HIT : Hid (∀ (E : List Nat) X, (∀ y ∈ E, y < (wr.alloc (.cells #[.int .i64 k', .slice B' lb'' cb', .string ⟨s'.toArray⟩, .string ⟨v'.toArray⟩] 26)).heap.size) → Keeps E w6 X → TxtAt X (textF x) (.slice A6 n6 c6)) := fun E X hE hX => by
      have h9 := HR6.out E X hE hX
      rw [HN6.out] at h9
      exact ⟨A6, c6, by rw [HN6.out], h9⟩
     clear hp6 hk6 hr6 hn6 g0 g1 g2' g3 e1 e2 e3
     go_wp2_with (at_builtin; refine wpList_append_opt rfl (.tmp 21) (.tmp 27) 216 rfl (w.heap.size + 1) 37 iu _ 1 24 Tryz.underlying216 hiu hzu0 hzu1 hzu2 rfl (by decide) (.slice A j c) j hs rfl HROW.out (some ⟨w6.heap.size, 0, none⟩) 1 1 [.slice A6 n6 c6] rfl rfl (src_onet w6 A6 n6 c6 _) (by intro u hu; simp at hu; rcases hu with rfl; rfl) (by unfold maxLen; omega) (by omega) HSZ.out ?_; intro v8 w8 ho hg8 hs8; obtain ⟨A8, c8, hv8⟩ := own_slice ho; subst hv8; have HY := Lib.hid (HS.out.step hgmw hgnw HXX.out ((Keeps.refl [] wr).alloc _) HN2.out HK6.out HP6.out HIT.out ((Keeps.refl [] w6).alloc _) ho hg8 hs8); have HBX8 := Lib.hid (boxes_onb HS.out.row HK7.out hg8 (by omega) (by omega) HBX.out); clear ho hg8 hs8)
     go_roundw
     case rel => exact ⟨A8, j + 1, c8, n2, _, rfl, by go_num, by omega, HY.out, HBX8.out⟩
     case measure => simp [intOf]; omega
    ·obtain rfl : j = lb := by omega
     have htl : l.take j = l := List.take_of_length_le (by rw [HL.out]; exact Nat.le_refl _)
     have hcn := HS.out.cnt
     rw [htl, HTH.out] at hcn
     injection hcn with hcn
     subst hcn
     have hbl : (textFL l).length = j := by rw [textFL_map, List.length_map]; exact HL.out
     have htx : TxsIn wr A j (textFL l) := txs_own HS.out.row HS.out.hsl hbl (fun i y v0 hy hv0 => by
      rw [textFL_map, List.getElem?_map] at hy
      cases hq : l[i]? with
      | none => rw [hq] at hy; cases hy
      | some t0 =>
       rw [hq] at hy
       simp at hy
       subst hy
       exact HS.out.items [] wr (by simp) (Keeps.refl _ _) i t0 v0 (by rw [htl]; exact hq) hv0)
     have hfl := textFL_len l (d + 1) (m + 1) _ HTH.out
     have hle := HLE.out
     have HCS := Lib.hid (textwith_is ⟨k, B, j, cb, s, v⟩ A j c (textFL l) wr (by dsimp only; omega) (by dsimp only; omega) HAL.out.1 HAL.out.2.1 hle.2.2 htx (by omega) (by omega) (hG.keep HKW.out))
     obtain ⟨e1, e2, e3, _, _, _⟩ := HE.out.keep HS.out.keep
     obtain ⟨⟨z0, z1, z2, z3⟩, _⟩ := four_facts8 HBX.out
     unfold FH.val tv at HCS
     dsimp only at HCS
     have HM : Hid (textF (.mk k l s v) = textK k s v (textFL l)) := by show _ = _; simp [textF]
     clear hbl htx hfl hle
     go_wp2_with fail
     refine HCS.out.mono ?_
     rintro e w3 ⟨A3, c3, rfl, hr3, hk3⟩
     have HX : Hid (ThrTQ no n9 (.mk k l s v) gm gn w (.returned (.slice A3 (textK k s v (textFL l)).length c3)) w3) := ⟨A3, c3, by rw [HM.out], fun E X hE hX => by
      rw [HM.out]
      have hz := HS.out.siz
      exact BytesAt.of_own (own_keep hr3 hX (fun b hb hm => by have := (hr3.lt b hb).1; have := hE b hm; omega)), HS.out.pass.keep hk3 (by simp) (by simp), HS.out.keep.trans hk3 (by simp)⟩
     clear hr3 hk3 e1 e2 e3 z0 z1 z2 z3
     generalize (textK k s v (textFL l)).length = rl at HX ⊢
     go_wp2_with fail
     go_ret
     exact HX.out
end Go.Proofs.YtbfebljahjmjfaaGreatDoor
/- filter: the text of a filter; walked. -/
namespace Go.Proofs.YtbfebljahjmjfaaGreatDoor
open Go.RowKit Go.Shelf
set_option linter.unusedVariables false
set_option linter.unusedSimpArgs false
set_option maxRecDepth 100000

set_option maxHeartbeats 4000000 in
theorem thrtopT_is (no : Int) (t : FV) (h : FH) (w : World) (hG : SgnAt w) (ht : FilAt w t h) (hr : rightF t = true) :
  Calls Tryz.prog 130 #[h.val, .int .i64 no, .func (.func 131) #[] #[]] w fun e w' => ∃ A c, e = .returned (.slice A (textF t).length c) ∧ BytesAt w' (.slice A (textF t).length c) (textF t) ∧ Keeps [] w w' := by
 have hmf : ∀ (fn : Fn) (first cap : Array Value) (w : World), (Instr.makeFunc fn first cap).run Tryz.prog w = .ok (.func fn first cap) w := fun _ _ _ _ => rfl
 obtain ⟨nn, hnn⟩ : ∃ n, thruF aloneF 1 0 t = some n := by unfold rightF at hr; exact Option.isSome_iff_exists.1 hr
 have HNN := Lib.hid hnn
 have HT := Lib.hid ht
 have HG := Lib.hid hG
 have HGA := Lib.hid (gate8_is no)
 obtain ⟨k, B, lb, cb, s, v⟩ := h
 unfold FH.val tv at *
 dsimp only at *
 clear ht hG hr hnn
 have k1 : Keeps [] w (w.alloc (.cells #[.int .i64 k, .slice B lb cb, .string ⟨s.toArray⟩, .string ⟨v.toArray⟩] 26)) := (Keeps.refl [] w).alloc _
 have b1 := heap_new8 w (.cells #[.int .i64 k, .slice B lb cb, .string ⟨s.toArray⟩, .string ⟨v.toArray⟩] 26)
 have k2 : Keeps [] (w.alloc (.cells #[.int .i64 k, .slice B lb cb, .string ⟨s.toArray⟩, .string ⟨v.toArray⟩] 26)) ((w.alloc (.cells #[.int .i64 k, .slice B lb cb, .string ⟨s.toArray⟩, .string ⟨v.toArray⟩] 26)).alloc (.cells #[.func (.func 131) #[] #[]] 168)) := (Keeps.refl [] _).alloc _
 have b2 := heap_new8 (w.alloc (.cells #[.int .i64 k, .slice B lb cb, .string ⟨s.toArray⟩, .string ⟨v.toArray⟩] 26)) (.cells #[.func (.func 131) #[] #[]] 168)
 have HBF := Lib.hid (blk_keep b1 k2 (by simp))
 have HBW := Lib.hid b2
 have HKB := Lib.hid (k1.trans' k2)
 have HZ : Hid (((w.alloc (.cells #[.int .i64 k, .slice B lb cb, .string ⟨s.toArray⟩, .string ⟨v.toArray⟩] 26)).alloc (.cells #[.func (.func 131) #[] #[]] 168)).heap.size = w.heap.size + 2) := by show _ = _; simp
 simp only [World.size_alloc] at HBW
 clear k1 k2 b1 b2
 go_enter Tryz.func130, Tryz.ntmps130
 go_wp2_with fail
 generalize (w.alloc (.cells #[.int .i64 k, .slice B lb cb, .string ⟨s.toArray⟩, .string ⟨v.toArray⟩] 26)).alloc (.cells #[.func (.func 131) #[] #[]] 168) = W1 at HBF HBW HKB HZ ⊢
 refine (HGA.out W1).mono ?_
 rintro e w1 ⟨rfl, hp1, hk1⟩
 have HP1 := Lib.hid hp1
 have HK1 := Lib.hid hk1
 clear hp1 hk1 HGA
 have k4 : Keeps [] w1 (w1.alloc (.cells #[.func (.func 134) #[] #[.pointer (some ⟨W1.heap.size + 1, 0, none⟩), .pointer (some ⟨W1.heap.size, 0, none⟩)]] 114)) := (Keeps.refl [] w1).alloc _
 have b4 := heap_new8 w1 (.cells #[.func (.func 134) #[] #[.pointer (some ⟨W1.heap.size + 1, 0, none⟩), .pointer (some ⟨W1.heap.size, 0, none⟩)]] 114)
 have k5 : Keeps [] (w1.alloc (.cells #[.func (.func 134) #[] #[.pointer (some ⟨W1.heap.size + 1, 0, none⟩), .pointer (some ⟨W1.heap.size, 0, none⟩)]] 114)) ((w1.alloc (.cells #[.func (.func 134) #[] #[.pointer (some ⟨W1.heap.size + 1, 0, none⟩), .pointer (some ⟨W1.heap.size, 0, none⟩)]] 114)).alloc (.cells #[.func (.func 199) #[] #[.pointer (some ⟨w1.heap.size, 0, none⟩), .pointer (some ⟨w1.heap.size + 1, 0, none⟩), .pointer (some ⟨w.heap.size + 1, 0, none⟩)]] 215)) := (Keeps.refl [] _).alloc _
 have b5 := heap_new8 (w1.alloc (.cells #[.func (.func 134) #[] #[.pointer (some ⟨W1.heap.size + 1, 0, none⟩), .pointer (some ⟨W1.heap.size, 0, none⟩)]] 114)) (.cells #[.func (.func 199) #[] #[.pointer (some ⟨w1.heap.size, 0, none⟩), .pointer (some ⟨w1.heap.size + 1, 0, none⟩), .pointer (some ⟨w.heap.size + 1, 0, none⟩)]] 215)
 have HBP := Lib.hid (blk_keep b4 k5 (by simp))
 have HBN := Lib.hid b5
 have HK5 := Lib.hid (k4.trans' k5)
 simp only [World.size_alloc] at HBN
 clear k4 k5 b4 b5
 have HBF5 := Lib.hid (blk_keep (blk_keep HBF.out HK1.out (by simp)) HK5.out (by simp))
 obtain ⟨⟨z0, z1, z2, z3⟩, _⟩ := four_facts8 HBF5.out
 have y0 := cell_of_blk HBN.out 0
 go_wp2_with fail
 generalize (w1.alloc (.cells #[.func (.func 134) #[] #[.pointer (some ⟨W1.heap.size + 1, 0, none⟩), .pointer (some ⟨W1.heap.size, 0, none⟩)]] 114)).alloc (.cells #[.func (.func 199) #[] #[.pointer (some ⟨w1.heap.size, 0, none⟩), .pointer (some ⟨w1.heap.size + 1, 0, none⟩), .pointer (some ⟨w.heap.size + 1, 0, none⟩)]] 215) = W5 at HBP HBN HK5 HBF5 z0 z1 z2 z3 y0 ⊢
 have hzw := HZ.out
 have hz1 := HK1.out.size
 have HKA := Lib.hid (HKB.out.trans' (HK1.out.trans' HK5.out))
 have HREC := Lib.hid (thrT_is w1.heap.size (w1.heap.size + 1) (w.heap.size + 1) (W1.heap.size + 1) W1.heap.size no w (by omega) HG.out t 1 0 nn ⟨k, B, lb, cb, s, v⟩ W5 (by decide) (by decide) HT.out HKA.out ⟨cell_of_blk HBP.out 0, cell_of_blk HBN.out 0, cell_of_blk (blk_keep (blk_keep HBW.out HK1.out (by simp)) HK5.out (by simp)) 0, by have := lt_of_heap HP1.out.many; omega, by have := lt_of_heap HP1.out.many; omega, by omega⟩ (HP1.out.keep HK5.out (by simp) (by simp)) HNN.out)
 unfold FH.val tv at HREC
 dsimp only at HREC
 refine HREC.out.mono ?_
 rintro e w6 ⟨A6, c6, rfl, hr6, _, hk6⟩
 have HB6 := Lib.hid (hr6 [] w6 (by simp) (Keeps.refl _ _))
 clear hr6
 have HK6 := Lib.hid (HKA.out.trans hk6 (fun x hx => .inr (by rw [List.mem_singleton.1 hx]; omega)))
 clear hk6 z0 z1 z2 z3 y0
 go_wp2_with fail
 go_ret
 exact ⟨A6, c6, rfl, HB6.out, HK6.out⟩
set_option maxHeartbeats 4000000 in
theorem textof_is (t : FV) (h : FH) (w : World) (hG : SgnAt w) (ht : FilAt w t h) (hr : rightF t = true) :
  Calls Tryz.prog 75 #[h.val] w fun e w' => e = .returned (tv (textF t)) ∧ Keeps [] w w' := by
 have HT := Lib.hid (fun X (hX : Keeps [] w X) => thrtopT_is 2 t h X (hG.keep hX) (FilAt.grow hX t h ht) hr)
 obtain ⟨k, B, lb, cb, s, v⟩ := h
 unfold FH.val tv at *
 dsimp only at *
 clear ht hG hr
 have HB0 := Lib.hid (heap_new8 w (.cells #[.int .i64 k, .slice B lb cb, .string ⟨s.toArray⟩, .string ⟨v.toArray⟩] 26))
 have HK0 : Hid (Keeps [] w (w.alloc (.cells #[.int .i64 k, .slice B lb cb, .string ⟨s.toArray⟩, .string ⟨v.toArray⟩] 26))) := (Keeps.refl [] w).alloc _
 obtain ⟨⟨z0, z1, z2, z3⟩, _⟩ := four_facts8 HB0.out
 go_enter Tryz.func75, Tryz.ntmps75
 go_wp2_with fail
 refine (HT.out _ HK0.out).mono ?_
 rintro e w1 ⟨A1, c1, rfl, hb1, hk1⟩
 have hcv := conv_bytes hb1
 have HK1 := Lib.hid (HK0.out.trans' hk1)
 clear hb1 hk1 z0 z1 z2 z3
 generalize (textF t).length = tl at hcv ⊢
 go_wp2_with fail
 go_ret
 exact ⟨rfl, HK1.out⟩
/-- What Text answers. -/
def ftextP (t : FV) : Txt × Nat := if rightF t = true then (textF (lowF t), 0) else ([], 2)
def TxtQ9 (t : FV) (w : World) (e : Ending) (w' : World) : Prop := e = .returned (.tuple #[tv (ftextP t).1, .int .i64 ((ftextP t).2 : Int)]) ∧ Keeps [] w w'
set_option maxHeartbeats 4000000 in
theorem text8_is (t : FV) (h : FH) (w : World) (hG : SgnAt w) (ht : FilAt w t h) :
  Calls Tryz.prog 27 #[h.val] w (TxtQ9 t w) := by
 have hmf : ∀ (fn : Fn) (first cap : Array Value) (w : World), (Instr.makeFunc fn first cap).run Tryz.prog w = .ok (.func fn first cap) w := fun _ _ _ _ => rfl
 have HSO := Lib.hid (fun X (hX : Keeps [] w X) => sound_is 2 t h X (FilAt.grow hX t h ht))
 have HTO := Lib.hid (fun X (hX : Keeps [] w X) (h' : FH) (ha : FilAt X (lowF t) h') (hr : rightF t = true) => textof_is (lowF t) h' X (hG.keep hX) ha (by rw [rightF_low]; exact hr))
 obtain ⟨k, B, lb, cb, s, v⟩ := h
 unfold FH.val tv at *
 dsimp only at *
 clear ht hG
 have b1 := heap_new8 w (.cells #[.int .i64 k, .slice B lb cb, .string ⟨s.toArray⟩, .string ⟨v.toArray⟩] 26)
 have k1 : Keeps [] w (w.alloc (.cells #[.int .i64 k, .slice B lb cb, .string ⟨s.toArray⟩, .string ⟨v.toArray⟩] 26)) := (Keeps.refl [] w).alloc _
 have k2 : Keeps [] (w.alloc (.cells #[.int .i64 k, .slice B lb cb, .string ⟨s.toArray⟩, .string ⟨v.toArray⟩] 26)) ((w.alloc (.cells #[.int .i64 k, .slice B lb cb, .string ⟨s.toArray⟩, .string ⟨v.toArray⟩] 26)).alloc (.cells #[.int .i64 0] 27)) := (Keeps.refl [] _).alloc _
 have b2 := heap_new8 (w.alloc (.cells #[.int .i64 k, .slice B lb cb, .string ⟨s.toArray⟩, .string ⟨v.toArray⟩] 26)) (.cells #[.int .i64 0] 27)
 have HBF := Lib.hid (blk_keep b1 k2 (by simp))
 have HBN := Lib.hid b2
 have HKB := Lib.hid (k1.trans' k2)
 simp only [World.size_alloc] at HBN
 clear k1 k2 b1 b2
 have HEND : Hid (∀ X v, Keeps [] w X → Keeps [] w (X.setCell ⟨w.heap.size + 1, 0, none⟩ v)) := fun X v hk => hk.setCell (.inr (Nat.le_succ _)) _
 obtain ⟨⟨z0, z1, z2, z3⟩, _⟩ := four_facts8 HBF.out
 go_enter_defers Tryz.func27, Tryz.ntmps27
 go_wp2_with fail
 generalize (w.alloc (.cells #[.int .i64 k, .slice B lb cb, .string ⟨s.toArray⟩, .string ⟨v.toArray⟩] 26)).alloc (.cells #[.int .i64 0] 27) = W1 at HBF HBN HKB z0 z1 z2 z3 ⊢
 refine (HSO.out W1 HKB.out).mono ?_
 rintro e w2 ⟨⟨h', hr, rfl, hr6⟩ | ⟨hr, rfl⟩, hk2⟩
 ·have HR := Lib.hid hr
  have HK2 := Lib.hid (HKB.out.trans' hk2)
  have HTX := Lib.hid (HTO.out w2 HK2.out h' (hr6 [] w2 (by simp) (Keeps.refl _ _)) hr)
  obtain ⟨k', B', l9, cb', s', v'⟩ := h'
  unfold FH.val tv
  dsimp only at HTX ⊢
  have HN2 := Lib.hid (blk_keep HBN.out hk2 (by simp))
  obtain ⟨tx, htx⟩ : ∃ tx, textF (lowF t) = tx := ⟨_, rfl⟩
  rw [htx] at HTX
  have HRQ : Hid (∀ X, Keeps [] w X → TxtQ9 t w (.returned (.tuple #[.string ⟨tx.toArray⟩, .int .i64 0])) X) := fun X hX => ⟨by unfold ftextP; rw [if_pos HR.out, htx]; rfl, hX⟩
  clear hr hr6 hk2 htx z0 z1 z2 z3
  go_wp2_with fail
  refine HTX.out.mono ?_
  rintro e w3 ⟨rfl, hk3⟩
  have HK3 := Lib.hid (HK2.out.trans' hk3)
  have hb := blk_keep HN2.out hk3 (by simp)
  have hc := cell_of_blk hb 0
  have hz := free_of_blk hb 0
  have HC1 := Lib.hid (World.cell?_setCell_same w3 ⟨w.heap.size + 1, 0, none⟩ (.int .i64 0) hc)
  have HZ1 : Hid ((w3.setCell ⟨w.heap.size + 1, 0, none⟩ (.int .i64 0)).frozen? ⟨w.heap.size + 1, 0, none⟩ = false) := by show _ = _; rw [World.frozen?_setCell]; exact hz
  have HC2 := Lib.hid (World.cell?_setCell_same (w3.setCell ⟨w.heap.size + 1, 0, none⟩ (.int .i64 0)) ⟨w.heap.size + 1, 0, none⟩ (.int .i64 0) HC1.out)
  clear hk3 hb
  go_wp2_with fail
  refine leaves_cons (f := 74) (args := #[.pointer (some ⟨w.heap.size + 1, 0, none⟩)]) (by simp) (by simp [go_sem]) ?_
  refine (ftext_idle (w.heap.size + 1) 0 _ HC1.out HZ1.out).mono ?_
  rintro e u' w'' ⟨rfl, rfl, rfl⟩
  have hcs2 := HC2.out
  simp [Leaves, settle, results, Tryz.results27, go_sem, hcs2]
  exact HRQ.out _ (HEND.out _ _ (HEND.out _ _ HK3.out))
 ·have HR := Lib.hid hr
  have HK2 := Lib.hid (HKB.out.trans' hk2)
  have hb := blk_keep HBN.out hk2 (by simp)
  have hc := cell_of_blk hb 0
  have hz := free_of_blk hb 0
  have HC1 := Lib.hid (World.cell?_setCell_same w2 ⟨w.heap.size + 1, 0, none⟩ (.int .i64 2) hc)
  have HRQ : Hid (TxtQ9 t w (.returned (.tuple #[.string ⟨#[]⟩, .int .i64 2])) (w2.setCell ⟨w.heap.size + 1, 0, none⟩ (.int .i64 2))) := ⟨by unfold ftextP; rw [if_neg (by rw [hr]; simp)]; rfl, HEND.out _ _ HK2.out⟩
  clear hr hk2 hb z0 z1 z2 z3
  go_wp2_with fail
  refine leaves_cons (f := 74) (args := #[.pointer (some ⟨w.heap.size + 1, 0, none⟩)]) (by simp) (by simp [go_sem]) ?_
  refine (ftext_panicking (w.heap.size + 1) 0 2 [] w2 hc hz).mono ?_
  rintro e u' w'' ⟨rfl, rfl, rfl⟩
  have hcs2 := HC1.out
  simp [Leaves, settle, results, Tryz.results27, go_sem, hcs2]
  exact HRQ.out
end Go.Proofs.YtbfebljahjmjfaaGreatDoor
