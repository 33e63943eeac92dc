
/- entry: slices.AppendSeq over slices.Values. -/
import Derived.Test.YtmgkejgmkfeccaaGreatDoorV3
import Derived.Test.YtmgkejgmkfeccaaGreatDoorG3
namespace Go.Proofs.YtmgkejgmkfeccaaGreatDoor
open Go.RowKit Go.Shelf
set_option linter.unusedVariables false
set_option linter.unusedSimpArgs false
attribute [local go_sem] Oper.semAt_some

theorem str_info7 : (Tryz.prog.info? 9).map (fun i => (i.zero, i.size, i.bytes)) = some (some (.string ⟨#[]⟩), 1, 16) := by kernel_rfl
theorem own_kept7 {m : Nat} {a b : World} {base k n : Nat} {e : TypeId} {v : Value} {xs : List Value} (h : a.ownsRow base e k v n xs) (hk : Kept m a b) : b.ownsRow base e k v n xs := by
  obtain ⟨h1, h2⟩ := h
  refine ⟨h1, ?_⟩
  rcases h2 with h2 | ⟨g, cap, cur, rfl, hg, hh, r⟩
  · exact .inl h2
  · exact .inr ⟨g, cap, cur, rfl, hg, hk.block _ _ hh (.inr rfl), r⟩
theorem kept_grown {m : Nat} {X Y : World} {row : Option Nat} (hg : X.grownBy Y row) (hr : ∀ r, row = some r → m ≤ r ∧ ∃ o : Obj, X.heap[r]? = some o ∧ o.isCells = false) : Kept m X Y :=
  ⟨hg.os, hg.tape, hg.output, hg.size, fun k o ho hi => (hg.block k (lt_of_heap ho) (fun e => by
    obtain ⟨h1, o', h2, h3⟩ := hr k e.symm
    rw [ho] at h2
    injection h2 with h2
    subst h2
    rcases hi with hi | hi
    · omega
    · rw [h3] at hi; cases hi)).trans ho⟩

theorem own_base7 {W : World} {base base' n size : Nat} {e : TypeId} {v : Value} {xs : List Value} (h : W.ownsRow base e size v n xs) (hb : base' ≤ base) : W.ownsRow base' e size v n xs := by
  refine ⟨h.1, ?_⟩
  rcases h.2 with h2 | ⟨g, cap, cur, hA, hg, r⟩
  · exact .inl h2
  · exact .inr ⟨g, cap, cur, hA, Nat.le_trans hb hg, r⟩
/-- What a round of AppendSeq finds: the box of its slice, which has what came. -/
structure ApI (w : World) (b : Nat) (pre : List Txt) (W : World) : Prop where
  le : w.heap.size = b
  ex : ∃ A c, W.heap[b]? = some (.cells #[.slice A pre.length c] 40 (0, 0)) ∧ W.ownsRow (b + 1) 9 1 (.slice A pre.length c) pre.length (pre.map tv)
  bel : Below b w W
theorem own_block_ne {W : World} {base b n : Nat} {A : Option Addr} {c : Nat} {xs : List Value} (h : W.ownsRow base 9 1 (.slice A n c) n xs) (hb : b < base) : (Value.slice A n c).ownBlock ≠ some b := fun e => by
  have := (h.lt b e).1
  omega

set_option maxRecDepth 100000 in
set_option maxHeartbeats 4000000 in
theorem appendseq_is (A : Option Addr) (n c B : Nat) (l : List Txt) (w : World) (hB : w.cell? ⟨B, 0, none⟩ = some (.slice A n c)) (h : StrsIn w A n l) (hn : n ≤ 1000000) :
    Calls Tryz.prog 97 #[.slice none 0 0, .func (.func 87) #[] #[.pointer (some ⟨B, 0, none⟩)]] w fun e w' => ∃ A' c', e = .returned (.slice A' n c') ∧ w'.ownsRow w.heap.size 9 1 (.slice A' n c') n (l.map tv) ∧ Keeps [] w w' := by
  obtain ⟨iu, hiu, hzu0, hzu1, hzu2⟩ := info_parts str_info7
  have HS := Lib.hid h
  have HB := Lib.hid hB
  have hBl := lt_of_cell hB
  have hA0 : 0 < n → ∀ b o, A = some ⟨b, o, none⟩ → b < w.heap.size := fun h0 b o e => by
    obtain ⟨b', o', e', hc⟩ := h.2.2 h0
    rw [e] at e'
    injection e' with e'
    injection e' with e1 e2 e3
    subst e1 e2
    obtain ⟨s, hu⟩ : ∃ s, l[0]? = some s := ⟨_, List.getElem?_eq_getElem (by rw [h.1]; exact h0)⟩
    exact lt_of_cell (hc 0 s hu)
  have HA0 := Lib.hid hA0
  have HLN : Hid (l.length = n) := h.1
  clear h hB hA0
  refine (callsIn_wide (n := 3)).1 ?_
  refine callsIn_of_wp_marks Tryz.func97 rfl trivial ?_ rfl
  simp only [Tryz.ntmps97, List.size_toArray, List.length_cons, List.length_nil, Nat.reduceAdd, Nat.reduceSub, Array.replicate_succ, Array.replicate_zero, List.push_toArray, List.append_toArray, List.nil_append, List.cons_append]
  gi_wp2
  have HK0 : Hid (Keeps [] w (w.alloc (.cells #[.slice none 0 0] 40))) := (Keeps.refl [] w).alloc _
  have hb0 : (w.alloc (.cells #[.slice none 0 0] 40)).heap[w.heap.size]? = some (.cells #[.slice none 0 0] 40 (0, 0)) := World.alloc_heap_new w _
  have hz0 : (w.alloc (.cells #[.slice none 0 0] 40)).heap.size = w.heap.size + 1 := by simp
  have hbe : Below w.heap.size w (w.alloc (.cells #[.slice none 0 0] 40)) := (Below.refl _ w).alloc (Nat.le_refl _) _
  obtain ⟨W0, hW0⟩ : ∃ W0, w.alloc (.cells #[.slice none 0 0] 40) = W0 := ⟨_, rfl⟩
  rw [hW0] at HK0 hb0 hz0 hbe ⊢
  obtain ⟨b, hb⟩ : ∃ b, w.heap.size = b := ⟨_, rfl⟩
  have HI0 : Hid (ApI w b [] W0) := ⟨hb, ⟨none, 0, by rw [← hb]; exact hb0, World.ownsRow_nil _ _ _ _⟩, by rw [← hb]; exact hbe⟩
  have HWB := Lib.hid hb
  simp only [hb]
  rw [hb] at hz0 hBl
  clear hW0 hb0 hbe hb
  refine wpIn_rangeFunc_ownF rfl (by omega) (gf := 87) (lb := #[.pointer (some ⟨B, 0, none⟩)]) rfl trivial (enters_of Tryz.func87 (by kernel_rfl) rfl)
    (viter_stops Fence.wide (3 - 1) trivial rfl (by omega) B b n c A l (by omega) W0 (by omega) (by omega) ((HK0.out.cell (p := ⟨B, 0, none⟩) (by rw [HWB.out]; exact hBl) (by simp)).trans HB.out) (StrsIn.grow HK0.out HS.out) (fun h0 b' o e => by have := HA0.out h0 b' o e; have := HWB.out; omega)) (fun h k => h.trans k) (fun W l' o o' hl hx h1 h2 => belowK_b (w := W0) (by omega) W l' o o' hl hx h1 h2) (Below.refl _ _) (fun _ => rfl)
    (fun pre W => ApI w b pre W)
    (fun _ _ _ => False)
    (fun pre X Y row h hg hr => by
      have hk := kept_grown hg hr
      obtain ⟨A', c', h1, h2⟩ := h.ex
      refine ⟨h.le, ⟨A', c', hk.block _ _ h1 (.inr rfl), own_kept7 h2 hk⟩, h.bel.trans ((hk.mono (n := b) (by omega)).below (by have := h.bel.size; have := h.le; omega))⟩)
    (fun _ _ _ _ _ hs _ _ => hs)
    HI0.out
    (fun x => { tmps := #[.slice none 0 0, .func (.func 87) #[] #[.pointer (some ⟨B, 0, none⟩)], .pointer (some ⟨b, 0, none⟩), undef, .slice none 0 0, tv x, .func (.func 87) #[] #[.pointer (some ⟨B, 0, none⟩)], tv x, undef, undef, undef, undef, undef], defers := [] }) ?assign ?body ?done ?stop
  case assign =>
    intro l' x W K hK
    unfold tv at *
    gi_wp2
    exact hK
  case body =>
    rintro lp pre x W h hpl
    obtain ⟨A', c', h1, h2⟩ := h.ex
    have hc1 := cell_of_blk h1 0
    have hf1 := free_of_blk h1 0
    have HV := Lib.hid h
    have HO := Lib.hid h2
    have H1 := Lib.hid h1
    have hpn : pre.length ≤ 1000000 := by rw [HLN.out] at hpl; omega
    have hbW : b < W.heap.size := lt_of_heap h1
    have hbl := h.bel.size
    simp only [List.getElem?_toArray, List.getElem?_cons_zero] at hc1
    clear h h1 h2 hpl
    obtain ⟨m, hm⟩ : ∃ m, pre.length = m := ⟨_, rfl⟩
    rw [hm] at hc1 HO hpn H1
    unfold tv
    gi_wp2_with (gi_at_builtin; refine wpListIn_append_own _ rfl (.tmp 8) (.tmp 10) 40 rfl (b + 1) 9 iu (.string ⟨#[]⟩) 1 16 Tryz.underlying40 hiu hzu0 hzu1 hzu2 rfl (by decide) (.slice A' m c') m (pre.map tv) rfl (own_keep HO.out ((Keeps.refl [] W).alloc _) (by simp)) ⟨W.heap.size, 0, none⟩ 1 1 [tv x] rfl rfl (cell_one_new _ _ _) (by simp [Value.oneCell', tv]) (by unfold maxLen; omega) (by omega) (by simp; omega) ?_; intro v' w3 ho hg3 hnil3; obtain ⟨A3, c3, hv3⟩ := own_slice ho; subst hv3; have h3 := (hg3.block b (by simp; omega) (fun e => own_block_ne HO.out (Nat.lt_succ_self b) e.symm)).trans ((Below.heap_alloc _ _ b hbW).trans H1.out); have hc3 := cell_of_blk h3 0; have hf3 := free_of_blk h3 0; simp only [List.getElem?_toArray, List.getElem?_cons_zero] at hc3; have HO3 := Lib.hid ho; have HG3 := Lib.hid hg3; have H3 := Lib.hid h3; clear ho hg3 hnil3 h3)
    have hkb : Keeps (Value.slice A' m c').ownBlock.toList (W.alloc (.cells #[tv x] 9)) w3 := Keeps.of_grown HG3.out (fun y hy => .inl (by rw [hy]; simp))
    have hblk : ∀ y ∈ (Value.slice A' m c').ownBlock.toList, b + 1 ≤ y := fun y hy => by
      have h9 : (Value.slice A' m c').ownBlock = some y := by simpa using hy
      exact (HO.out.lt y h9).1
    have hk3 : Keeps (b :: (Value.slice A' m c').ownBlock.toList) W (w3.setCell ⟨b, 0, none⟩ (.slice A3 (m + 1) c3)) :=
      (((Keeps.refl _ W).alloc _).trans hkb (fun y hy => .inl (by simp [hy]))).setCell (.inl (by simp)) _
    have hbelow : Below b W (w3.setCell ⟨b, 0, none⟩ (.slice A3 (m + 1) c3)) := hk3.below (by omega) (fun y hy => by
      rcases List.mem_cons.1 hy with hy | hy
      · omega
      · have := hblk y hy; omega)
    show KeepsOthers W (w3.setCell ⟨b, 0, none⟩ (.slice A3 (m + 1) c3)) ∧ Below b W (w3.setCell ⟨b, 0, none⟩ (.slice A3 (m + 1) c3)) ∧ ApI w b (pre ++ [x]) (w3.setCell ⟨b, 0, none⟩ (.slice A3 (m + 1) c3))
    refine ⟨⟨hk3.size, fun k o ho hcel => ?_⟩, hbelow, HV.out.le, ⟨A3, c3, ?_, ?_⟩, HV.out.bel.trans hbelow⟩
    · refine (hk3.block k (lt_of_heap ho) (fun hm => ?_)).trans ho
      rcases List.mem_cons.1 hm with rfl | hm
      · rw [H1.out] at ho
        cases ho
        simp [Obj.isCells] at hcel
      · have h9 : (Value.slice A' m c').ownBlock = some k := by simpa using hm
        rcases HO.out.2 with ⟨hv, h2⟩ | ⟨g, cap, cur, hA, hg, hh, r⟩
        · rw [hv] at h9; simp [Value.ownBlock] at h9
        · injection hA with e1 e2 e3
          subst e1
          simp [Value.ownBlock] at h9
          subst h9
          rw [hh] at ho
          cases ho
          simp [Obj.isCells] at hcel
    · have := heap_setCell_same w3 b 0 _ 40 (.slice A3 (m + 1) c3) H3.out
      rw [List.length_append, hm]
      exact this
    · have h8 := own_keep HO3.out (show Keeps [b] w3 (w3.setCell ⟨b, 0, none⟩ (.slice A3 (m + 1) c3)) from (Keeps.refl [b] w3).setCell (.inl (by simp)) _) (fun y hy hm => by
        have := (HO3.out.lt y hy).1
        simp at hm
        omega)
      rw [List.length_append, hm, List.map_append]
      exact h8
  case done =>
    rintro D ys W hD rfl h hK
    obtain ⟨A', c', h1, h2⟩ := h.ex
    rw [HLN.out] at h1 h2
    have hc1 := cell_of_blk h1 0
    simp only [List.getElem?_toArray, List.getElem?_cons_zero] at hc1
    have HV := Lib.hid h
    have HO := Lib.hid h2
    clear h h1 h2
    gi_wp2
    refine ⟨by simp, .inl ⟨_, _, rfl, run_takeDeferred hK, ?_⟩⟩
    have hbW : b < W.heap.size := lt_of_cell hc1
    refine ⟨_, results_tmp rfl _ _ _, A', c', rfl, ?_, ?_⟩
    · exact own_base7 (own_kept7 HO.out (Kept.put (n := b + 1) (by omega) hK rfl)) (by rw [HWB.out]; omega)
    · exact Keeps.of_below (by rw [HWB.out]; exact HV.out.bel.trans (((Kept.put (n := b + 1) (by omega) hK rfl).below (by omega)).mono (by omega)))
  case stop =>
    rintro D c' pre W _ _ h _
    exact h.elim
theorem collect_is (A : Option Addr) (n c B : Nat) (l : List Txt) (w : World) (hB : w.cell? ⟨B, 0, none⟩ = some (.slice A n c)) (h : StrsIn w A n l) (hn : n ≤ 1000000) :
    Calls Tryz.prog 83 #[.func (.func 87) #[] #[.pointer (some ⟨B, 0, none⟩)]] w fun e w' => ∃ A' c', e = .returned (.slice A' n c') ∧ w'.ownsRow w.heap.size 9 1 (.slice A' n c') n (l.map tv) ∧ Keeps [] w w' := by
  have HA := Lib.hid (appendseq_is A n c B l w hB h hn)
  clear hB h hn
  go_enter Tryz.func83, Tryz.ntmps83
  go_wp2_with fail
  refine HA.out.mono ?_
  rintro e w1 ⟨A', c', rfl, h1, h2⟩
  have H1 := Lib.hid h1
  have H2 := Lib.hid h2
  clear h1 h2
  go_wp2_with fail
  go_ret
  exact ⟨A', c', rfl, H1.out, H2.out⟩
end Go.Proofs.YtmgkejgmkfeccaaGreatDoor
