import Derived.Test.YtbfebljahjmjfaaGreatDoorQ30
import Derived.Test.YtbfebljahjmjfaaGreatDoorQ10
import Derived.Test.YtbfebljahjmjfaaGreatDoorQ08
import Derived.BigQuiet
/- filter: readText's closure: what it holds, what a round finds. -/
namespace Go.Proofs.YtbfebljahjmjfaaGreatDoor
open Go.RowKit Go.Shelf
set_option linter.unusedVariables false
set_option linter.unusedSimpArgs false
set_option maxRecDepth 100000

/-- What does not turn: what readText's closure holds. -/
structure EnvR (gp gr gx gm gn : Nat) (w : World) : Prop where
 pass : w.cell? ⟨gp, 0, none⟩ = some (.func (.func 134) #[] #[.pointer (some ⟨gm, 0, none⟩), .pointer (some ⟨gn, 0, none⟩)])
 next : w.cell? ⟨gx, 0, none⟩ = some (.func (.func 81) #[] #[.pointer (some ⟨gp, 0, none⟩), .pointer (some ⟨gr, 0, none⟩), .pointer (some ⟨gx, 0, none⟩)])
 n1 : gp ≠ gm
 n2 : gp ≠ gr
 n3 : gx ≠ gm
 n4 : gx ≠ gr
 n5 : gm ≠ gr
 n6 : gn ≠ gr
theorem EnvR.keep {gp gr gx gm gn : Nat} {w w' : World} (h : EnvR gp gr gx gm gn w) (hk : Keeps [gm, gr] w w') : EnvR gp gr gx gm gn w' :=
 ⟨(hk.cell (p := ⟨gp, 0, none⟩) (lt_of_cell h.pass) (by simp; exact ⟨h.n1, h.n2⟩)).trans h.pass, (hk.cell (p := ⟨gx, 0, none⟩) (lt_of_cell h.next) (by simp; exact ⟨h.n3, h.n4⟩)).trans h.next, h.n1, h.n2, h.n3, h.n4, h.n5, h.n6⟩
/-- How readText's closure ends. -/
def RdQ (f d m : Nat) (T : Txt) (gm gn gr : Nat) (w : World) (e : Ending) (w' : World) : Prop :=
 ((∃ t n R h, rdF f d m T = some (t, n, R) ∧ e = .returned (FH.val h) ∧ PassAt w' gm gn n 180 ∧ RstAt w' gr R ∧ ∀ (E : List Nat) X, (∀ x ∈ E, x < w.heap.size) → Keeps E w' X → FilAt X t h) ∨ rdF f d m T = none ∧ e = gaveUp8 180) ∧ Keeps [gm, gr] w w'
/-- How many may still be passed, as memory tells it. -/
def cntW (gm : Nat) (w : World) : Nat := match w.cell? ⟨gm, 0, none⟩ with | some (.int _ z) => 200 - z.toNat | _ => 0
theorem cntW_is {w : World} {gm gn m : Nat} {n : Int} (h : PassAt w gm gn m n) : cntW gm w = 200 - m := by
 unfold cntW
 rw [h.cells.1]
 simp
/-- What a round finds. -/
structure RedS (w wr : World) (gm gn gr B : Nat) (k : Int) (s v : Txt) (A : Option Addr) (j c : Nat) (hs : List FH) (l : List FV) (n : Nat) (R : Txt) : Prop where
 pass : PassAt wr gm gn n 180
 rst : RstAt wr gr R
 box : wr.heap[B]? = some (.cells #[.int .i64 k, .slice A j c, .string ⟨s.toArray⟩, .string ⟨v.toArray⟩] 26 (0, 0))
 res : wr.heap[w.heap.size]? = some (.cells #[.int .i64 0, .slice none 0 0, .string ⟨#[]⟩, .string ⟨#[]⟩] 26 (0, 0))
 row : wr.ownsRow (B + 1) 26 4 (.slice A j c) j (headsF hs)
 hsl : hs.length = j
 lsl : l.length = j
 items : ∀ (E : List Nat) X, (∀ x ∈ E, x < B + 1 ∨ (Value.slice A j c).ownBlock = some x) → Keeps E wr X → ∀ (i : Nat) (t : FV) (h : FH), l[i]? = some t → hs[i]? = some h → FilAt X t h
 keep : Keeps [gm, gr] w wr
 lo : w.heap.size < B
 len : R.length ≤ 1000000000
 nle : n ≤ 200
 jn : j ≤ n
theorem RedS.step {w wr w6 w7 w8 : World} {gm gn gr B : Nat} {k : Int} {s v : Txt} {A A8 : Option Addr} {j c c8 : Nat} {hs : List FH} {l : List FV} {n n' : Nat} {R R' : Txt} (H : RedS w wr gm gn gr B k s v A j c hs l n R) (hgm : gm < w.heap.size) (hgn : gn < w.heap.size) (hgr : gr < w.heap.size)
  {t : FV} {h : FH} (k6 : Keeps [gm, gr] wr w6) (hp6 : PassAt w6 gm gn n' 180) (hr6 : RstAt w6 gr R') (hp : ∀ (E : List Nat) X, (∀ x ∈ E, x < wr.heap.size) → Keeps E w6 X → FilAt X t h) (hn : n < n') (hn2 : n' ≤ 200) (hR : R'.length ≤ 1000000000) (k7 : Keeps [] w6 w7)
  (ho : w8.ownsRow (B + 1) 26 4 (.slice A8 (j + 1) c8) (j + 1) (headsF hs ++ h.list)) (hg : w7.grownBy w8 (Value.slice A j c).ownBlock) (hs8 : (Value.slice A8 (j + 1) c8).ownBlock = (Value.slice A j c).ownBlock ∨ (Value.slice A8 (j + 1) c8).ownBlock = some w7.heap.size) :
  RedS w (w8.setCell ⟨B, 1, none⟩ (.slice A8 (j + 1) c8)) gm gn gr B k s v A8 (j + 1) c8 (hs ++ [h]) (l ++ [t]) n' R' := by
 have hz6 := k6.size
 have hz7 := k7.size
 have hlo := H.lo
 have hjn := H.jn
 have hBr : B < wr.heap.size := lt_of_heap H.box
 have k8 : Keeps (Value.slice A j c).ownBlock.toList w7 w8 := Keeps.of_grown hg (fun x hx => .inl (by rw [hx]; simp))
 have hz8 := k8.size
 have k9 : Keeps [B] w8 (w8.setCell ⟨B, 1, none⟩ (.slice A8 (j + 1) c8)) := (Keeps.refl [B] w8).setCell (.inl (by simp)) _
 have hvl : ∀ x ∈ (Value.slice A j c).ownBlock.toList, B + 1 ≤ x ∧ x < wr.heap.size := fun x hx => H.row.lt x (by simpa using hx)
 have k68 : Keeps (Value.slice A j c).ownBlock.toList w6 w8 := (k7.mono (by simp)).trans k8 (fun x hx => .inl hx)
 have k69 : Keeps (B :: (Value.slice A j c).ownBlock.toList) w6 (w8.setCell ⟨B, 1, none⟩ (.slice A8 (j + 1) c8)) := (k68.mono (fun x hx => .inl (List.mem_cons_of_mem _ hx))).trans k9 (fun x hx => .inl (by simp at hx; simp [hx]))
 have kr9 : Keeps (gm :: gr :: B :: (Value.slice A j c).ownBlock.toList) wr (w8.setCell ⟨B, 1, none⟩ (.slice A8 (j + 1) c8)) := (k6.mono (cs := gm :: gr :: B :: (Value.slice A j c).ownBlock.toList) (fun x hx => .inl (by simp at hx ⊢; rcases hx with hx | hx <;> simp [hx]))).trans k69 (fun x hx => .inl (by simp at hx ⊢; rcases hx with hx | hx <;> simp [hx]))
 have hnb : ∀ x, x ≤ B → x ∉ (Value.slice A j c).ownBlock.toList := fun x hx hm => by have := hvl x hm; omega
 have hnb2 : ∀ x, x < B → x ∉ B :: (Value.slice A j c).ownBlock.toList := fun x hx hm => by
  rcases List.mem_cons.1 hm with hm | hm
  ·omega
  ·exact hnb x (by omega) hm
 have hbox8 : w8.heap[B]? = some (.cells #[.int .i64 k, .slice A j c, .string ⟨s.toArray⟩, .string ⟨v.toArray⟩] 26 (0, 0)) := blk_keep (blk_keep H.box k6 (by simp; omega)) k68 (hnb B (Nat.le_refl _))
 refine ⟨hp6.keep k69 (hnb2 gm (by omega)) (hnb2 gn (by omega)), hr6.keep k69 (hnb2 gr (by omega)), heap_setCell_same w8 B 1 _ _ _ hbox8, blk_keep (blk_keep H.res k6 (by simp; omega)) k69 (hnb2 _ hlo), ?_, by simp [H.hsl], by simp [H.lsl], fun E X hE hk i t' h' ht' hh' => ?_, H.keep.trans kr9 (fun x hx => ?_), hlo, hR, hn2, by omega⟩
 ·rw [headsF_snoc]
  exact own_keep ho k9 (fun b hb hm => by have := (ho.lt b hb).1; simp at hm; omega)
 ·have hcase : ∀ x ∈ E, x < wr.heap.size ∨ w7.heap.size ≤ x := fun x hx => by
   rcases hE x hx with h9 | h9
   ·exact .inl (by omega)
   ·rcases hs8 with h10 | h10
    ·rw [h10] at h9
     exact .inl (hvl x (by rw [h9]; simp)).2
    ·rw [h10] at h9
     injection h9 with h9
     exact .inr (by omega)
  have hold : ∀ x ∈ E, x < wr.heap.size → x < B + 1 ∨ (Value.slice A j c).ownBlock = some x := fun x hx hlt => by
   rcases hE x hx with h9 | h9
   ·exact .inl h9
   ·rcases hs8 with h10 | h10
    ·rw [h10] at h9; exact .inr h9
    ·rw [h10] at h9
     injection h9 with h9
     omega
  by_cases hj : i < j
  ·rw [List.getElem?_append_left (by rw [H.lsl]; exact hj)] at ht'
   rw [List.getElem?_append_left (by rw [H.hsl]; exact hj)] at hh'
   have kX : Keeps ((gm :: gr :: B :: (Value.slice A j c).ownBlock.toList) ++ E.filter (fun x => decide (x < wr.heap.size))) wr X := by
    have k10 : Keeps ((gm :: gr :: B :: (Value.slice A j c).ownBlock.toList) ++ E.filter (fun x => decide (x < wr.heap.size))) wr _ := kr9.mono (fun x hx => .inl (List.mem_append_left _ hx))
    refine k10.trans hk (fun x hx => ?_)
    rcases hcase x hx with h9 | h9
    ·exact .inl (List.mem_append_right _ (List.mem_filter.2 ⟨hx, by simpa using h9⟩))
    ·exact .inr (by omega)
   refine H.items _ X (fun x hx => ?_) kX i t' h' ht' hh'
   rcases List.mem_append.1 hx with hx | hx
   ·simp only [List.mem_cons] at hx
    rcases hx with hx | hx | hx | hx
    ·exact .inl (by omega)
    ·exact .inl (by omega)
    ·exact .inl (by omega)
    ·exact .inr (by simpa using hx)
   ·obtain ⟨h9, h10⟩ := List.mem_filter.1 hx
    exact hold x h9 (by simpa using h10)
  ·have hja : i = j := by
    have := (List.getElem?_eq_some_iff.1 ht').1
    simp [H.lsl] at this
    omega
   subst hja
   rw [List.getElem?_append_right (by rw [H.lsl]; exact Nat.le_refl _), H.lsl] at ht'
   rw [List.getElem?_append_right (by rw [H.hsl]; exact Nat.le_refl _), H.hsl] at hh'
   simp at ht' hh'
   subst ht' hh'
   have kX : Keeps ((B :: (Value.slice A i c).ownBlock.toList) ++ E.filter (fun x => decide (x < wr.heap.size))) w6 X := by
    have k10 : Keeps ((B :: (Value.slice A i c).ownBlock.toList) ++ E.filter (fun x => decide (x < wr.heap.size))) w6 _ := k69.mono (fun x hx => .inl (List.mem_append_left _ hx))
    refine k10.trans hk (fun x hx => ?_)
    rcases hcase x hx with h9 | h9
    ·exact .inl (List.mem_append_right _ (List.mem_filter.2 ⟨hx, by simpa using h9⟩))
    ·exact .inr (by show w6.heap.size ≤ x; omega)
   refine hp _ X (fun x hx => ?_) kX
   rcases List.mem_append.1 hx with hx | hx
   ·rcases List.mem_cons.1 hx with hx | hx
    ·omega
    ·have := (hvl x hx).2; omega
   ·have : x < wr.heap.size := by simpa using (List.mem_filter.1 hx).2
    omega
 ·simp only [List.mem_cons] at hx
  rcases hx with hx | hx | hx | hx
  ·exact .inl (by simp [hx])
  ·exact .inl (by simp [hx])
  ·exact .inr (by omega)
  ·exact .inr (by have := (hvl x hx).1; omega)
/-- What the end leaves: the filter in the result's box. -/
theorem RedS.fin {w wr : World} {gm gn gr B : Nat} {k : Int} {s v : Txt} {A : Option Addr} {j c : Nat} {hs : List FH} {l : List FV} {n : Nat} {R : Txt} (H : RedS w wr gm gn gr B k s v A j c hs l n R) {w2 : World} (k2 : Keeps [gr] wr w2) {w3 : World} (k3 : Keeps [w.heap.size] w2 w3) (hgr : gr < w.heap.size) (hk : -9223372036854775808 ≤ k ∧ k ≤ 9223372036854775807) (hs9 : s.length ≤ 9223372036854775807) (hv9 : v.length ≤ 9223372036854775807) :
  ∀ (E : List Nat) X, (∀ x ∈ E, x < w.heap.size) → Keeps E w3 X → FilAt X (.mk k l s v) ⟨k, A, j, c, s, v⟩ := fun E X hE hX => by
 have hlo := H.lo
 have hB := lt_of_heap H.box
 have kX : Keeps (gr :: w.heap.size :: E) wr X := ((k2.mono (cs := gr :: w.heap.size :: E) (fun x hx => .inl (by simp at hx; simp [hx]))).trans k3 (fun x hx => .inl (by simp at hx; simp [hx]))).trans hX (fun x hx => .inl (by simp [hx]))
 have hrow := own_keep H.row kX (fun b hb hm => by
  have h9 := (H.row.lt b hb).1
  simp only [List.mem_cons] at hm
  rcases hm with hm | hm | hm
  ·omega
  ·omega
  ·have := hE b hm; omega)
 have hcap := cap_of_own hrow
 refine ⟨rfl, rfl, rfl, hk.1, hk.2, hs9, hv9, H.lsl, hcap.1, hcap.2, fils_own hrow H.hsl H.lsl (fun i t' h' ht' hh' => H.items (gr :: w.heap.size :: E) X (fun x hx => ?_) kX i t' h' ht' hh')⟩
 simp only [List.mem_cons] at hx
 rcases hx with hx | hx | hx
 ·exact .inl (by omega)
 ·exact .inl (by omega)
 ·exact .inl (by have := hE x hx; omega)
theorem RedS.grow {w wr X : World} {gm gn gr B : Nat} {k : Int} {s v : Txt} {A : Option Addr} {j c : Nat} {hs : List FH} {l : List FV} {n : Nat} {R : Txt} (H : RedS w wr gm gn gr B k s v A j c hs l n R) (hX : Keeps [] wr X) : RedS w X gm gn gr B k s v A j c hs l n R :=
 ⟨H.pass.keep hX (by simp) (by simp), H.rst.keep hX (by simp), blk_keep H.box hX (by simp), blk_keep H.res hX (by simp), own_keep H.row hX (fun b hb hm => by cases hm), H.hsl, H.lsl, fun E Y hE hk => H.items E Y hE ((hX.mono (cs := E) (by simp)).trans hk (fun x hx => .inl hx)), H.keep.trans' (hX.mono (by simp)), H.lo, H.len, H.nle, H.jn⟩
end Go.Proofs.YtbfebljahjmjfaaGreatDoor
