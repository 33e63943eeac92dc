/- FramesRow: frames one behind the other, with noughts behind them. -/
import Derived.Test.YtkcoiplhopdnlaaQ8
import Derived.Test.YtkcoiplhopdnlaaG5
namespace Go.Proofs.Ytkcoiplhopdnlaa
open Go.RowKit Go.Shelf
set_option linter.unusedVariables false
attribute [local go_sem] Oper.semAt_some

/-- Frames under way: those of the first j records. -/
structure RBld (w wr : World) (v : Value) (l : List Part) (j : Nat) : Prop where
  own : wr.ownsRow w.heap.size 5 1 v (offs (rowOf (l.take j))) ((joinF (rowOf (l.take j))).map bv)
  keep : Keeps [] w wr

theorem RBld.next {w wr wa wb : World} {v u : Value} {l : List Part} {j : Nat} {x : Part} (h : RBld w wr v l j) (ht : l.take (j + 1) = l.take j ++ [x]) (hk : Keeps [] wr wa) (ho : wb.ownsRow w.heap.size 5 1 u (offs (rowOf (l.take j)) + (x.bs.length + 12)) ((joinF (rowOf (l.take j))).map bv ++ (frameOf x.bs).map bv)) (hg : wa.grownBy wb v.ownBlock) : RBld w wb u l (j + 1) := by
  refine ⟨?_, keeps_own (own_keep h.own hk (by simp)) (h.keep.trans' hk) hg⟩
  rw [ht]
  unfold rowOf at ho ⊢
  rw [List.map_append, List.map_cons, List.map_nil, offs_snoc, joinF_snoc, List.map_append]
  exact ho

theorem num4_zeros (m : Nat) : num4 (List.replicate m (0 : UInt8)) = 0 := by
  have h : ∀ i : Nat, UInt8.toNat ((List.replicate m (0 : UInt8))[i]?.getD 0) = 0 := fun i => by
    rw [List.getElem?_replicate]
    by_cases hi : i < m
    · simp [hi]
    · simp [hi]
  unfold num4
  rw [h, h, h, h]
theorem recs_zeros (m : Nat) : recs (List.replicate m (0 : UInt8)) = [] := by
  refine recs_nil ?_
  rw [Bool.eq_false_iff]
  intro hf
  have := (framed_iff.1 hf).2.1
  rw [num4_zeros] at this
  omega

/-- A byte of a row at a block's head, written. -/
theorem bytes_set {w : World} {g n c k : Nat} {xs : List UInt8} (h : BytesAt w (.slice (some ⟨g, 0, none⟩) n c) xs) (hk : k < xs.length) (u : UInt8) : BytesAt (w.setCell ⟨g, k, none⟩ (bv u)) (.slice (some ⟨g, 0, none⟩) n c) (xs.set k u) := by
  obtain ⟨A, c', he, h1, h2, h3⟩ := h
  injection he with e1 e2 e3
  subst e1
  subst e2
  subst e3
  refine ⟨_, _, by rw [List.length_set], by rw [List.length_set]; exact h1, h2, fun _ => ?_⟩
  obtain ⟨b, o, hb, hc⟩ := h3 (by omega)
  injection hb with hb
  injection hb with hb1 hb2 _
  subst hb1
  subst hb2
  refine ⟨g, 0, rfl, fun i x hx => ?_⟩
  rw [Nat.zero_add]
  rw [List.getElem?_set] at hx
  by_cases hik : k = i
  · subst hik
    rw [if_pos rfl, if_pos hk] at hx
    injection hx with hx
    subst hx
    have h0 := hc k (xs[k]) (List.getElem?_eq_getElem hk)
    rw [Nat.zero_add] at h0
    exact World.cell?_setCell_same' _ _ _ (by rw [h0]; rfl)
  · rw [if_neg hik] at hx
    have h0 := hc i x hx
    rw [Nat.zero_add] at h0
    exact (World.cell?_setCell_other _ _ _ _ (by intro h; cases h; exact hik rfl)).trans h0

/-- The first bytes alone. -/
theorem bytes_cut {w : World} {A : Option Addr} {n c k : Nat} {xs : List UInt8} (h : BytesAt w (.slice A n c) xs) (hk : k ≤ xs.length) : BytesAt w (.slice A k c) (xs.take k) := by
  obtain ⟨A', c', he, h1, h2, h3⟩ := h
  injection he with e1 e2 e3
  subst e1
  subst e3
  have hl : (xs.take k).length = k := by rw [List.length_take]; omega
  refine ⟨_, _, by rw [hl], by rw [hl]; omega, h2, fun h0 => ?_⟩
  obtain ⟨b, o, hb, hc⟩ := h3 (by omega)
  refine ⟨b, o, hb, fun i x hx => hc i x ?_⟩
  rw [List.getElem?_take] at hx
  split at hx
  · exact hx
  · cases hx

theorem row_out (A : Option Addr) (len c : Nat) (nn at_ by_ cut : Int) (l : List Part) (w : World) (hl : PartsAt w A len l) (hm : len ≤ 9223372036854775807) (h : fewR l = false ∨ (fewR l = true ∧ nn < 0) ∨ (fewR l = true ∧ 0 ≤ nn ∧ 100 < nn)) : Calls Try.prog 3 #[.slice A len c, .int .i64 nn, .agg #[.int .i64 at_, .int .u8 by_, .int .i64 cut]] w fun e w' => e = .returned (.bool true) ∧ Keeps [] w w' := by
  have HF := Lib.hid (fun w1 hk => few3_is A len c l w1 (hl.keep hk) hm)
  have b1 := Boxed.new ((w.alloc (.cells #[.slice A len c] 22)).alloc (.cells #[.int .i64 at_, .int .u8 by_, .int .i64 cut] 24)) 4 (.bool false)
  simp only [World.size_alloc] at b1
  have HB1 := Lib.hid b1
  have HK1 : Hid (Keeps [] w (((w.alloc (.cells #[.slice A len c] 22)).alloc (.cells #[.int .i64 at_, .int .u8 by_, .int .i64 cut] 24)).alloc (.cells #[.bool false] 4))) := (((Keeps.refl [] w).alloc _).alloc _).alloc _
  have c0 := (((Boxed.new w 22 (.slice A len c)).alloc (.cells #[.int .i64 at_, .int .u8 by_, .int .i64 cut] 24)).alloc (.cells #[.bool false] 4)).cell
  clear hl b1
  rcases h with h | ⟨h, h3⟩ | ⟨h, h3, h4⟩
  all_goals
    rw [h] at HF
    go_enter Try.func3, Try.ntmps3
    go_wp2_with (go_at_call 4; refine (HF.out _ HK1.out).mono ?_; rintro e w2 ⟨rfl, rfl⟩)
    refine (known3_any _).mono ?_
    rintro e w2 ⟨rfl, hk2⟩
    have b2 := boxed_keeps HB1.out hk2
    have c2 := b2.cell
    have f2 := b2.frozen
    have HB2 := Lib.hid b2
    have HK2 := Lib.hid (HK1.out.trans' hk2)
    clear b2 hk2
    go_wp2_with fail
    refine bodyPost_ret (results_cell1 rfl _ _ rfl (fun w hc => load_var Try.isAgg4 w hc) (HB2.out.set (.bool true)).cell) rfl ?_
    exact ⟨rfl, HK2.out.setCell (.inr (by show w.heap.size ≤ w.heap.size + 1 + 1; omega)) _⟩

end Go.Proofs.Ytkcoiplhopdnlaa
