/- crc's pass: the word behind the bytes of some parts. -/
import Derived.Test.YtkcoiplhopdnlaaL3
import Derived.Laws.EntriesVeiled
import Derived.Test.YtkcoiplhopdnlaaG2
namespace Go.Proofs.Ytkcoiplhopdnlaa
open Go.RowKit Go.Shelf
set_option linter.unusedVariables false
attribute [local go_sem] Oper.semAt_some

theorem cbytesof (A : Option Addr) (len c : Nat) (w : World) : Calls Try.prog 47 #[.slice A len c] w fun e w' => e = .returned (.func (.func 52) #[] #[.pointer (some ⟨w.heap.size, 0, none⟩)]) ∧ w.alloc (.cells #[.slice A len c] 22) = w' := by
  go_enter Try.func47, Try.ntmps47
  go_wp2_with fail
  go_ret
  exact ⟨rfl, rfl⟩

theorem citer_stops (F : Fence) (n : Nat) (hf : F.fn 52) (hro : F.round = none) (hn : 1 ≤ n) (Bs n₀ p len c : Nat) (A : Option Addr) (l : List Part) (hm : len ≤ 9223372036854775807) (w : World) (hBs : Bs < w.heap.size) (hn₀ : n₀ ≤ w.heap.size)
    (hc : w.cell? ⟨Bs, 0, none⟩ = some (.slice A len c)) (hP : PartsIn n₀ p w A len l) :
    SeqStopsK F n Try.prog 52 #[.pointer (some ⟨Bs, 0, none⟩)] (fun x : UInt8 => #[Value.int .u8 (x.toNat : Int)]) (KBut n₀ p) (fun ys => ys = flat l) (fun _ => True) (flat l).length w := fun lp J Jx W hW _ _ hY h0 => by
  have hk : KBut n₀ p w W := ⟨hW.os, hW.tape, hW.output, hW.size, fun k hk _ => hW.block k (by omega)⟩
  exact citer_in F n hf hro hn lp Bs n₀ p len c A l hm J Jx hY W ((hW.cell (p := ⟨Bs, 0, none⟩) hBs).trans hc) (hP.kbut hk) h0

/-- A word at the head of a block. -/
def WordAt (w : World) (p : Nat) (cs : Array Value) (t : TypeId) (y : Nat) : Prop := w.heap[p]? = some (.cells (cs.setIfInBounds 0 (.int .u32 (y : Int))) t (0, 0))

theorem WordAt.lt {w : World} {p : Nat} {cs : Array Value} {t : TypeId} {y : Nat} (h : WordAt w p cs t y) : p < w.heap.size := lt_of_heap h
theorem WordAt.cell {w : World} {p : Nat} {cs : Array Value} {t : TypeId} {y : Nat} (h : WordAt w p cs t y) (hs : 0 < cs.size) : w.cell? ⟨p, 0, none⟩ = some (.int .u32 (y : Int)) := by
  rw [cell_of_blk h 0, Array.getElem?_setIfInBounds_self_of_lt hs]
theorem WordAt.free {w : World} {p : Nat} {cs : Array Value} {t : TypeId} {y : Nat} (h : WordAt w p cs t y) : w.frozen? ⟨p, 0, none⟩ = false := free_of_blk h 0
theorem WordAt.set {w : World} {p : Nat} {cs : Array Value} {t : TypeId} {y : Nat} (h : WordAt w p cs t y) (z : Nat) : WordAt (w.setCell ⟨p, 0, none⟩ (.int .u32 (z : Int))) p cs t z := by
  have hlt := h.lt
  unfold WordAt at h ⊢
  simp [World.setCell, Array.getElem?_modify, h]
theorem WordAt.keep {w w' : World} {p : Nat} {cs : Array Value} {t : TypeId} {y : Nat} {bs : List Nat} (h : WordAt w p cs t y) (hk : Keeps bs w w') (hp : p ∉ bs) : WordAt w' p cs t y := blk_keep h hk hp

theorem KeepsOthers.of_keeps {T : Nat} {w w' : World} (h : Keeps [T] w w') (hT : TabAt w T) : KeepsOthers w w' := by
  refine ⟨h.size, fun k o hk ho => ?_⟩
  obtain ⟨cs, t, h1, _⟩ := hT
  refine (h.block k (lt_of_heap hk) (fun hm => ?_)).trans hk
  rw [List.mem_singleton] at hm
  subst hm
  rw [h1] at hk
  cases hk
  simp [Obj.isCells] at ho

theorem grown_block {B : Nat} {w w' : World} {row : Option Nat} (hg : w.grownBy w' row) (hr : ∀ r, row = some r → B ≤ r) : ∀ k, k < B → k < w.heap.size → w'.heap[k]? = w.heap[k]? :=
  fun k hk hl => hg.block k hl (fun e => by have := hr k e.symm; omega)

/-- What a round finds. -/
structure PI (w W : World) (p s T B : Nat) (cs : Array Value) (t : TypeId) (y : Nat) : Prop where
  word : WordAt W p cs t y
  ptr : W.cell? ⟨s, 0, none⟩ = some (.pointer (some ⟨p, 0, none⟩))
  fn : W.cell? ⟨B, 0, none⟩ = some (.func (.func 50) #[] #[.pointer (some ⟨T, 0, none⟩)])
  tab : TabAt W T
  but : KBut w.heap.size p w W

set_option maxRecDepth 100000 in
set_option maxHeartbeats 4000000 in
theorem cpass (A : Option Addr) (len c p x : Nat) (l : List Part) (cs : Array Value) (t : TypeId) (w : World) (hm : len ≤ 9223372036854775807) (hx : x < 4294967296) (hs : 0 < cs.size) (hw : WordAt w p cs t x) (hP : PartsIn w.heap.size p w A len l) :
    Calls Try.prog 36 #[.pointer (some ⟨p, 0, none⟩), .slice A len c] w fun e w' => (∃ v, e = .returned v) ∧ WordAt w' p cs t (crcRun x (flat l)) ∧ Keeps [p] w w' := by
  refine (callsIn_wide (n := 3)).1 ?_
  refine callsIn_of_wp_marks Try.func36 rfl trivial ?_ rfl
  simp only [Try.ntmps36, List.size_toArray, List.length_cons, List.length_nil, Nat.reduceAdd, Nat.reduceSub, Array.replicate_succ, Array.replicate_zero, List.push_toArray, List.append_toArray, List.nil_append, List.cons_append]
  have HP := Lib.hid hP
  have HW := Lib.hid hw
  clear hP hw
  gi_wp2_with (first | (refine ⟨trivial, ?_⟩; gi_at_call 46; refine (callsIn_wide.2 (crem_new _)).mono ?_; rintro e w1 ⟨rfl, ht1, hk1⟩) | (refine ⟨trivial, ?_⟩; gi_at_call 47; refine (callsIn_wide.2 (cbytesof _ _ _ _)).mono ?_; rintro e w2 ⟨rfl, rfl⟩))
  rw [World.size_alloc] at ht1
  have hz0 := ht1.lt
  have k1 : Keeps [] w w1 := ((Keeps.refl [] w).alloc _).trans' hk1
  have cs0 : w1.cell? ⟨w.heap.size, 0, none⟩ = some (.pointer (some ⟨p, 0, none⟩)) := (hk1.cell (p := ⟨w.heap.size, 0, none⟩) (by simp) (by simp)).trans (by rw [World.cell?_alloc_new]; rfl)
  have hF : 50 = 50 := rfl
  obtain ⟨W0, hW0⟩ : ∃ W0, (w1.alloc (.cells #[.func (.func 50) #[] #[.pointer (some ⟨w.heap.size + 1, 0, none⟩)]] 55)).alloc (.cells #[.slice A len c] 22) = W0 := ⟨_, rfl⟩
  have k2 : Keeps [] w1 W0 := by rw [← hW0]; exact ((Keeps.refl [] w1).alloc _).alloc _
  have c4 : W0.cell? ⟨w1.heap.size, 0, none⟩ = some (.func (.func 50) #[] #[.pointer (some ⟨w.heap.size + 1, 0, none⟩)]) := by
    rw [← hW0, World.cell?_alloc_lt _ _ _ (by simp), World.cell?_alloc_new]
    rfl
  have c5 : W0.cell? ⟨w1.heap.size + 1, 0, none⟩ = some (.slice A len c) := by
    have := World.cell?_alloc_new (w1.alloc (.cells #[.func (.func 50) #[] #[.pointer (some ⟨w.heap.size + 1, 0, none⟩)]] 55)) #[.slice A len c] 22 0
    rw [World.size_alloc] at this
    rw [← hW0, this]
    rfl
  have hz : W0.heap.size = w1.heap.size + 1 + 1 := by rw [← hW0]; simp
  rw [hW0]
  have K0 := k1.trans' k2
  have KB0 : KBut w.heap.size p w W0 := KBut.of_keeps K0 (Nat.le_refl _) (by simp)
  have I0 : PI w W0 p w.heap.size (w.heap.size + 1) w1.heap.size cs t x := ⟨HW.out.keep K0 (by simp), (k2.cell (p := ⟨w.heap.size, 0, none⟩) (by show w.heap.size < _; omega) (by simp)).trans cs0, c4, ht1.keep k2 (by simp), KB0⟩
  have hpw := HW.out.lt
  have HI0 := Lib.hid I0
  have HP0 := Lib.hid (HP.out.kbut KB0)
  clear hk1 hW0 k2 c4 cs0 I0 KB0
  refine wpIn_rangeFunc_ownF rfl (by omega) (gf := 52) (lb := #[.pointer (some ⟨w1.heap.size + 1, 0, none⟩)]) rfl trivial (enters_of Try.func52 (by kernel_rfl) rfl)
    (citer_stops Fence.wide (3 - 1) trivial rfl (by omega) (w1.heap.size + 1) w.heap.size p len c A l hm W0 (by omega) (by omega) c5 HP0.out) (fun h k => h.trans k) (KBut.putObj (by omega)) (Below.refl _ _) (fun _ => rfl)
    (fun pre W => PI w W p w.heap.size (w.heap.size + 1) w1.heap.size cs t (crcRun x pre))
    (fun _ _ _ => False)
    (fun pre X Y row h hg hr => by
      have hb := grown_block hg (fun r e => (hr r e).1)
      have hx0 := h.word.lt
      have hx1 : w.heap.size < X.heap.size := lt_of_cell h.ptr
      have hx2 : w1.heap.size < X.heap.size := lt_of_cell h.fn
      have hx3 := h.tab.lt
      refine ⟨(hb p (by omega) hx0).trans h.word, (World.cell?_of_block (a := ⟨w.heap.size, 0, none⟩) (hb w.heap.size (by omega) hx1)).trans h.ptr, (World.cell?_of_block (a := ⟨w1.heap.size, 0, none⟩) (hb w1.heap.size (by omega) hx2)).trans h.fn, ?_, h.but.trans ⟨hg.os, hg.tape, hg.output, hg.size, fun k hk _ => hb k (by omega) (by have := h.but.size; omega)⟩⟩
      obtain ⟨a, b, c, d⟩ := h.tab
      exact ⟨a, b, (hb _ (by omega) hx3).trans c, d⟩)
    (fun _ _ _ _ _ hs _ _ => hs)
    HI0.out
    (fun x => { tmps := #[.pointer (some ⟨p, 0, none⟩), .slice A len c, .pointer (some ⟨w.heap.size, 0, none⟩), undef, .pointer (some ⟨w1.heap.size, 0, none⟩), .int .u8 (x.toNat : Int), .func (.func 50) #[] #[.pointer (some ⟨w.heap.size + 1, 0, none⟩)], .slice A len c, .func (.func 52) #[] #[.pointer (some ⟨w1.heap.size + 1, 0, none⟩)], .int .u8 (x.toNat : Int), undef, undef, undef, undef, undef, undef, undef, undef], defers := [] }) ?assign ?body ?done ?stop
  case assign =>
    intro l x W K hK
    gi_wp2
    exact hK
  case body =>
    rintro lp pre u W h _
    have hmx : Try.prog.follows .mixedOrders = true := by kernel_rfl
    have c1 := h.word.cell hs
    have f1 := h.word.free
    have c2 := h.ptr
    have c3 := h.fn
    have hy := crcRun_lt hx pre
    have H := Lib.hid h
    clear h c5 hF
    have n1 : p ∉ [w.heap.size + 1] := by rw [List.mem_singleton]; omega
    have n2 : w.heap.size ∉ [w.heap.size + 1] := by rw [List.mem_singleton]; omega
    have z1 : w.heap.size < W.heap.size := lt_of_cell c2
    gi_wp2
    refine region_in_round (fun X => X.cell? ⟨w.heap.size, 0, none⟩ = some (.pointer (some ⟨p, 0, none⟩)) ∧ X.cell? ⟨w1.heap.size, 0, none⟩ = some (.func (.func 50) #[] #[.pointer (some ⟨w.heap.size + 1, 0, none⟩)])) hmx (by kernel_rfl) (fun ⟨_, _, h⟩ => h) ⟨c2, c3⟩ ?_
    intro HS
    refine wpAnyH_take (i := 0) (v := .pointer (some ⟨p, 0, none⟩)) rfl (by kernel_rfl) (by kernel_rfl) (by kernel_rfl) (fun _ _ _ h => h) (Or.inl ⟨by rfl, ?_⟩) HS ?_
    · intro w5 hw5
      obtain ⟨d1, d2⟩ := hw5
      go_simp
    refine wpAnyH_take (i := 1) (v := .func (.func 50) #[] #[.pointer (some ⟨w.heap.size + 1, 0, none⟩)]) rfl (by kernel_rfl) (by kernel_rfl) (by kernel_rfl) (fun _ _ _ h => h) (Or.inl ⟨by rfl, ?_⟩) HS ?_
    · intro w5 hw5
      obtain ⟨d1, d2⟩ := hw5
      go_simp
    refine wpAnyH_take (i := 2) (v := .pointer (some ⟨p, 0, none⟩)) rfl (by kernel_rfl) (by kernel_rfl) (by kernel_rfl) (fun _ _ _ h => h) (Or.inl ⟨by rfl, ?_⟩) HS ?_
    · intro w5 hw5
      obtain ⟨d1, d2⟩ := hw5
      go_simp
    refine wpAnyH_take (i := 3) (v := .pointer (some ⟨p, 0, none⟩)) rfl (by kernel_rfl) (by kernel_rfl) (by kernel_rfl) (fun _ _ _ h => h) (Or.inl ⟨by rfl, ?_⟩) HS ?_
    · intro w5 hw5
      obtain ⟨d1, d2⟩ := hw5
      go_simp
    refine wpAnyH_take (i := 5) (v := .int .u8 (u.toNat : Int)) rfl (by kernel_rfl) (by kernel_rfl) (by kernel_rfl) (fun _ _ _ h => h) (Or.inl ⟨by rfl, ?_⟩) HS ?_
    · intro w5 hw5
      obtain ⟨d1, d2⟩ := hw5
      go_simp
    refine wpAnyH_ready (rs := [4]) (by kernel_rfl) (by simp) (AllReadyH.cons rfl (fun K hK => ?_) AllReadyH.nil)
    go_simp
    refine hK.out _ _ HS (fun _ => ?_)
    clear hK K
    refine wpAnyH_ready (rs := [6]) (by kernel_rfl) (by simp) (AllReadyH.cons rfl (fun K hK => ?_) AllReadyH.nil)
    go_simp
    refine (crem (crcRun x pre) u.toNat (w.heap.size + 1) W.drew hy u.toNat_lt H.out.tab).mono ?_
    rintro e w3 ⟨rfl, ht3, hk3⟩
    have n3 : w1.heap.size ∉ [w.heap.size + 1] := by rw [List.mem_singleton]; omega
    have z2 : w1.heap.size < W.heap.size := lt_of_cell c3
    have wd3 := WordAt.keep (w := W.drew) H.out.word hk3 n1
    have c6 := wd3.cell hs
    have f6 := wd3.free
    have c7 := (hk3.cell (p := ⟨w.heap.size, 0, none⟩) z1 n2).trans c2
    have c8 := (hk3.cell (p := ⟨w1.heap.size, 0, none⟩) z2 n3).trans c3
    refine hK.out _ _ ⟨c7, c8⟩ (fun HS3 => ?_)
    clear hK K
    refine wpAnyH_ready (rs := [7]) (by kernel_rfl) (by simp) (AllReadyH.cons rfl (fun K hK => ?_) AllReadyH.nil)
    go_simp
    refine hK.out _ _ HS3 (fun _ => ?_)
    clear hK K
    refine wpAnyH_ready (rs := [8]) (by kernel_rfl) (by simp) (AllReadyH.cons rfl (fun K hK => ?_) AllReadyH.nil)
    go_simp
    refine hK.out _ _ ⟨(World.cell?_setCell_far w3 ⟨p, 0, none⟩ ⟨w.heap.size, 0, none⟩ _ (by show p ≠ w.heap.size; omega)).trans c7, (World.cell?_setCell_far w3 ⟨p, 0, none⟩ ⟨w1.heap.size, 0, none⟩ _ (by show p ≠ w1.heap.size; omega)).trans c8⟩ (fun HS4 => ?_)
    clear hK K
    refine wpAnyH_done (by kernel_rfl) ?_ _
    have hk4 : KBut w.heap.size p W w3 := ⟨hk3.os, hk3.tape, hk3.output, hk3.size, fun k hk _ => hk3.block k (show k < W.heap.size by omega) (by rw [List.mem_singleton]; omega)⟩
    have hk5 : KBut w.heap.size p w3 (w3.setCell ⟨p, 0, none⟩ (.int .u32 (crcStep (crcRun x pre) u.toNat : Nat))) := KBut.of_keeps (n := w.heap.size) (p := p) ((Keeps.refl [p] w3).setCell (.inl (by simp)) _) (by have := hk4.size; omega) (by simp)
    show KeepsOthers W (w3.setCell ⟨p, 0, none⟩ (.int .u32 (crcStep (crcRun x pre) u.toNat : Nat))) ∧ KBut w.heap.size p W (w3.setCell ⟨p, 0, none⟩ (.int .u32 (crcStep (crcRun x pre) u.toNat : Nat))) ∧ PI w (w3.setCell ⟨p, 0, none⟩ (.int .u32 (crcStep (crcRun x pre) u.toNat : Nat))) p w.heap.size (w.heap.size + 1) w1.heap.size cs t (crcRun x (pre ++ [u]))
    refine ⟨?_, hk4.trans hk5, ?_⟩
    · exact (KeepsOthers.of_keeps (w := W) ⟨hk3.os, hk3.tape, hk3.output, hk3.size, hk3.block⟩ H.out.tab).trans (KeepsOthers.setCell _ _ _)
    · rw [crcRun_snoc]
      exact ⟨wd3.set _, HS4.1, HS4.2, ht3.keep ((Keeps.refl [p] w3).setCell (.inl (by simp)) _) (by rw [List.mem_singleton]; omega), H.out.but.trans (hk4.trans hk5)⟩
  case done =>
    rintro D ys W hD rfl h hK
    gi_wp2
    refine ⟨by simp, .inl ⟨_, _, rfl, run_takeDeferred hK, ?_⟩⟩
    refine ⟨_, results_none rfl _ _ _, ⟨_, rfl⟩, ?_, ?_⟩
    · have : p ≠ D := by omega
      exact (World.putObj_heap_other this).trans h.word
    · exact (h.but.trans (KBut.putObj (w := w) (Nat.le_refl _) W D _ _ (by omega) hK rfl rfl)).keeps
  case stop =>
    rintro D c pre W _ _ h _
    exact h.elim

end Go.Proofs.Ytkcoiplhopdnlaa
