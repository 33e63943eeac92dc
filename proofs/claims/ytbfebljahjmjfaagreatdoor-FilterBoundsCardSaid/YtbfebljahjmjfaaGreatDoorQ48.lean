import Derived.Test.YtbfebljahjmjfaaGreatDoorQ47
import Derived.Test.YtbfebljahjmjfaaGreatDoorQ31
import Derived.Test.YtbfebljahjmjfaaGreatDoorQ35
import Derived.Test.YtbfebljahjmjfaaGreatDoorQ32
/- filter: the document's one: what a round of its loop over many finds. -/
namespace Go.Proofs.YtbfebljahjmjfaaGreatDoor
open Go.RowKit Go.Shelf
set_option linter.unusedVariables false
set_option linter.unusedSimpArgs false
set_option maxRecDepth 100000

/-- What a round finds: the filter under way in its box, those of it in a row of their own. -/
structure OneS (w wr : World) (k : Int) (A : Option Addr) (j c : Nat) (hs : List FH) (l : List FV) : Prop where
 box : wr.heap[w.heap.size + 1]? = some (.cells #[.int .i64 k, .slice A j c, .string ⟨#[]⟩, .string ⟨#[]⟩] 26 (0, 0))
 res : wr.heap[w.heap.size]? = some (.cells #[.int .i64 0, .slice none 0 0, .string ⟨#[]⟩, .string ⟨#[]⟩] 26 (0, 0))
 row : wr.ownsRow (w.heap.size + 2) 26 4 (.slice A j c) j (headsF hs)
 hsl : hs.length = j
 lsl : l.length = j
 items : ∀ (E : List Nat) X, (∀ x ∈ E, x < w.heap.size + 2 ∨ (Value.slice A j c).ownBlock = some x) → Keeps E wr X → ∀ (i : Nat) (t : FV) (h : FH), l[i]? = some t → hs[i]? = some h → FilAt X t h
 keep : Keeps [] w wr
 jn : j ≤ 201
theorem OneS.grow {w wr X : World} {k : Int} {A : Option Addr} {j c : Nat} {hs : List FH} {l : List FV} (H : OneS w wr k A j c hs l) (hX : Keeps [] wr X) : OneS w X k A j c hs l :=
 ⟨blk_keep H.box hX (by simp), blk_keep H.res hX (by simp), own_keep H.row hX (fun b hb hm => by cases hm), H.hsl, H.lsl, fun E Y hE hk => H.items E Y hE ((hX.mono (cs := E) (by simp)).trans hk (fun x hx => .inl hx)), H.keep.trans' hX, H.jn⟩
theorem OneS.new {w wr : World} {k : Int} (hb : wr.heap[w.heap.size + 1]? = some (.cells #[.int .i64 k, .slice none 0 0, .string ⟨#[]⟩, .string ⟨#[]⟩] 26 (0, 0))) (hr : wr.heap[w.heap.size]? = some (.cells #[.int .i64 0, .slice none 0 0, .string ⟨#[]⟩, .string ⟨#[]⟩] 26 (0, 0))) (hk : Keeps [] w wr) : OneS w wr k none 0 0 [] [] :=
 ⟨hb, hr, World.ownsRow_nil _ _ _ _, rfl, rfl, fun E X hE hX i t h ht => by simp at ht, hk, by omega⟩
theorem OneS.step {w wr w6 w7 w8 : World} {k : Int} {A A8 : Option Addr} {j c c8 : Nat} {hs : List FH} {l : List FV} (H : OneS w wr k A j c hs l)
  {t : FV} {h : FH} (k6 : Keeps [] wr w6) (hp : ∀ (E : List Nat) X, (∀ x ∈ E, x < wr.heap.size) → Keeps E w6 X → FilAt X t h) (hj : j ≤ 200) (k7 : Keeps [] w6 w7)
  (ho : w8.ownsRow (w.heap.size + 2) 26 4 (.slice A8 (j + 1) c8) (j + 1) (headsF hs ++ h.list)) (hg : w7.grownBy w8 (Value.slice A j c).ownBlock) (hs8 : (Value.slice A8 (j + 1) c8).ownBlock = (Value.slice A j c).ownBlock ∨ (Value.slice A8 (j + 1) c8).ownBlock = some w7.heap.size) :
  OneS w (w8.setCell ⟨w.heap.size + 1, 1, none⟩ (.slice A8 (j + 1) c8)) k A8 (j + 1) c8 (hs ++ [h]) (l ++ [t]) := by
 obtain ⟨B, hB⟩ : ∃ B, w.heap.size + 1 = B := ⟨_, rfl⟩
 have hB2 : w.heap.size + 2 = B + 1 := by omega
 have Hbox := H.box
 have Hrow := H.row
 have Hit := H.items
 rw [hB] at Hbox
 rw [hB2] at Hrow Hit ho
 have hz6 := k6.size
 have hz7 := k7.size
 have hjn := H.jn
 have hBr : B < wr.heap.size := lt_of_heap Hbox
 have k8 : Keeps (Value.slice A j c).ownBlock.toList w7 w8 := Keeps.of_grown hg (fun x hx => .inl (by rw [hx]; simp))
 have hz8 := k8.size
 have k9 : Keeps [B] w8 (w8.setCell ⟨B, 1, none⟩ (.slice A8 (j + 1) c8)) := (Keeps.refl [B] w8).setCell (.inl (by simp)) _
 have hvl : ∀ x ∈ (Value.slice A j c).ownBlock.toList, B + 1 ≤ x ∧ x < wr.heap.size := fun x hx => Hrow.lt x (by simpa using hx)
 have k68 : Keeps (Value.slice A j c).ownBlock.toList w6 w8 := (k7.mono (by simp)).trans k8 (fun x hx => .inl hx)
 have k69 : Keeps (B :: (Value.slice A j c).ownBlock.toList) w6 (w8.setCell ⟨B, 1, none⟩ (.slice A8 (j + 1) c8)) := (k68.mono (fun x hx => .inl (List.mem_cons_of_mem _ hx))).trans k9 (fun x hx => .inl (by simp at hx; simp [hx]))
 have kr9 : Keeps (B :: (Value.slice A j c).ownBlock.toList) wr (w8.setCell ⟨B, 1, none⟩ (.slice A8 (j + 1) c8)) := (k6.mono (by simp)).trans k69 (fun x hx => .inl hx)
 have hnb : ∀ x, x ≤ B → x ∉ (Value.slice A j c).ownBlock.toList := fun x hx hm => by have := hvl x hm; omega
 have hnb2 : ∀ x, x < B → x ∉ B :: (Value.slice A j c).ownBlock.toList := fun x hx hm => by
  rcases List.mem_cons.1 hm with hm | hm
  ·omega
  ·exact hnb x (by omega) hm
 have hbox8 : w8.heap[B]? = some (.cells #[.int .i64 k, .slice A j c, .string ⟨#[]⟩, .string ⟨#[]⟩] 26 (0, 0)) := blk_keep (blk_keep Hbox k6 (by simp)) k68 (hnb B (Nat.le_refl _))
 refine ⟨by rw [hB]; exact heap_setCell_same w8 B 1 _ _ _ hbox8, by rw [hB]; exact blk_keep (blk_keep H.res k6 (by simp)) k69 (hnb2 _ (by omega)), ?_, by simp [H.hsl], by simp [H.lsl], fun E X hE hk i t' h' ht' hh' => ?_, ?_, by omega⟩
 ·rw [headsF_snoc, hB, hB2]
  exact own_keep ho k9 (fun b hb hm => by have := (ho.lt b hb).1; simp at hm; omega)
 ·rw [hB2] at hE
  rw [hB] at hk
  have hcase : ∀ x ∈ E, x < wr.heap.size ∨ w7.heap.size ≤ x := fun x hx => by
   rcases hE x hx with h9 | h9
   ·exact .inl (by omega)
   ·rcases hs8 with h10 | h10
    ·rw [h10] at h9
     exact .inl (hvl x (by rw [h9]; simp)).2
    ·rw [h10] at h9
     injection h9 with h9
     exact .inr (by omega)
  have hold : ∀ x ∈ E, x < wr.heap.size → x < B + 1 ∨ (Value.slice A j c).ownBlock = some x := fun x hx hlt => by
   rcases hE x hx with h9 | h9
   ·exact .inl h9
   ·rcases hs8 with h10 | h10
    ·rw [h10] at h9; exact .inr h9
    ·rw [h10] at h9
     injection h9 with h9
     omega
  by_cases hj : i < j
  ·rw [List.getElem?_append_left (by rw [H.lsl]; exact hj)] at ht'
   rw [List.getElem?_append_left (by rw [H.hsl]; exact hj)] at hh'
   have kX : Keeps ((B :: (Value.slice A j c).ownBlock.toList) ++ E.filter (fun x => decide (x < wr.heap.size))) wr X := by
    have k10 : Keeps ((B :: (Value.slice A j c).ownBlock.toList) ++ E.filter (fun x => decide (x < wr.heap.size))) wr _ := kr9.mono (fun x hx => .inl (List.mem_append_left _ hx))
    refine k10.trans hk (fun x hx => ?_)
    rcases hcase x hx with h9 | h9
    ·exact .inl (List.mem_append_right _ (List.mem_filter.2 ⟨hx, by simpa using h9⟩))
    ·exact .inr (by omega)
   refine Hit _ X (fun x hx => ?_) kX i t' h' ht' hh'
   rcases List.mem_append.1 hx with hx | hx
   ·rcases List.mem_cons.1 hx with hx | hx
    ·exact .inl (by omega)
    ·exact .inr (by simpa using hx)
   ·obtain ⟨h9, h10⟩ := List.mem_filter.1 hx
    exact hold x h9 (by simpa using h10)
  ·have hja : i = j := by
    have := (List.getElem?_eq_some_iff.1 ht').1
    simp [H.lsl] at this
    omega
   subst hja
   rw [List.getElem?_append_right (by rw [H.lsl]; exact Nat.le_refl _), H.lsl] at ht'
   rw [List.getElem?_append_right (by rw [H.hsl]; exact Nat.le_refl _), H.hsl] at hh'
   simp at ht' hh'
   subst ht' hh'
   have kX : Keeps ((B :: (Value.slice A i c).ownBlock.toList) ++ E.filter (fun x => decide (x < wr.heap.size))) w6 X := by
    have k10 : Keeps ((B :: (Value.slice A i c).ownBlock.toList) ++ E.filter (fun x => decide (x < wr.heap.size))) w6 _ := k69.mono (fun x hx => .inl (List.mem_append_left _ hx))
    refine k10.trans hk (fun x hx => ?_)
    rcases hcase x hx with h9 | h9
    ·exact .inl (List.mem_append_right _ (List.mem_filter.2 ⟨hx, by simpa using h9⟩))
    ·exact .inr (by show w6.heap.size ≤ x; omega)
   refine hp _ X (fun x hx => ?_) kX
   rcases List.mem_append.1 hx with hx | hx
   ·rcases List.mem_cons.1 hx with hx | hx
    ·omega
    ·have := (hvl x hx).2; omega
   ·have : x < wr.heap.size := by simpa using (List.mem_filter.1 hx).2
    omega
 ·rw [hB]
  refine H.keep.trans kr9 (fun x hx => ?_)
  rcases List.mem_cons.1 hx with hx | hx
  ·exact .inr (by omega)
  ·exact .inr (by have := (hvl x hx).1; omega)
/-- What the end leaves: the filter as it is told. -/
theorem OneS.fin {w wr : World} {k : Int} {A : Option Addr} {j c : Nat} {hs : List FH} {l : List FV} (H : OneS w wr k A j c hs l) {w3 : World} (k3 : Keeps [w.heap.size] wr w3) (hk : -9223372036854775808 ≤ k ∧ k ≤ 9223372036854775807) :
  ∀ (E : List Nat) X, (∀ x ∈ E, x < w.heap.size) → Keeps E w3 X → FilAt X (.mk k l [] []) ⟨k, A, j, c, [], []⟩ := fun E X hE hX => by
 have kX : Keeps (w.heap.size :: E) wr X := (k3.mono (cs := w.heap.size :: E) (fun x hx => .inl (by simp at hx; simp [hx]))).trans hX (fun x hx => .inl (by simp [hx]))
 have hrow := own_keep H.row kX (fun b hb hm => by
  have h9 := (H.row.lt b hb).1
  rcases List.mem_cons.1 hm with hm | hm
  ·omega
  ·have := hE b hm; omega)
 have hcap := cap_of_own hrow
 refine ⟨rfl, rfl, rfl, hk.1, hk.2, Nat.zero_le _, Nat.zero_le _, H.lsl, hcap.1, hcap.2, fils_own hrow H.hsl H.lsl (fun i t' h' ht' hh' => H.items (w.heap.size :: E) X (fun x hx => ?_) kX i t' h' ht' hh')⟩
 rcases List.mem_cons.1 hx with hx | hx
 ·exact .inl (by omega)
 ·exact .inl (by have := hE x hx; omega)
/-- How far many has come: what is left of it behind those that stand. -/
def OneM (T : Txt) (i d p : Nat) (l : List FV) : Prop := manyR (2 * (T.drop i).length + 1) d 0 (T.drop i) = (manyR (2 * (T.drop p).length + 1) d l.length (T.drop p)).map (fun q => (l ++ q.1, q.2))
theorem OneM.new (T : Txt) (i d : Nat) : OneM T i d i [] := by
 unfold OneM
 cases manyR (2 * (T.drop i).length + 1) d 0 (T.drop i) <;> rfl
theorem OneM.more {T : Txt} {i d p : Nat} {l : List FV} (h : OneM T i d p l) {t : FV} {R : Txt} (h40 : begP [40] (T.drop p) = true) (ho : oneR (2 * (T.drop p).length + 2) (d + 1) (T.drop p) = some (t, R)) (hm : l.length ≤ 200) {q : Nat} (hq : T.drop q = R) : OneM T i d q (l ++ [t]) := by
 unfold OneM at *
 rw [h, manyR_more h40 ho hm, hq, List.length_append]
 show _ = Option.map _ (manyR _ d (l.length + 1) R)
 cases manyR (2 * R.length + 1) d (l.length + 1) R <;> simp
theorem OneM.bad {T : Txt} {i d p : Nat} {l : List FV} (h : OneM T i d p l) (h40 : begP [40] (T.drop p) = true) (ho : oneR (2 * (T.drop p).length + 2) (d + 1) (T.drop p) = none ∨ 200 < l.length) : manyR (2 * (T.drop i).length + 1) d 0 (T.drop i) = none := by
 unfold OneM at h
 rw [h, manyR_bad h40 ho]
 rfl
theorem OneM.stop {T : Txt} {i d p : Nat} {l : List FV} (h : OneM T i d p l) (h40 : ¬ begP [40] (T.drop p) = true) : manyR (2 * (T.drop i).length + 1) d 0 (T.drop i) = some (l, T.drop p) := by
 unfold OneM at h
 rw [h, manyR_stop h40]
 simp
end Go.Proofs.YtbfebljahjmjfaaGreatDoor
