import Derived.RangeFuncNested
import Derived.RangeFuncBound
import Derived.RangeFuncCalls
import Derived.RangeFuncLeaves
import Derived.Shelf.Abstract
import Derived.WalkKit
import Derived.OwnWalkIn
import Derived.TacticsInMore
import Derived.LoopNIn
import Derived.LoopIn
import Derived.Test.YtbfebljahjmjfaaGreatDoorQ03
import Derived.Shelf.SortM.Plain
import Derived.Shelf.SortM.SortNone
import Derived.Shelf.Slices.CompactS
import Derived.Sort.OwnSorted
/- A range over a function whose iterator may itself range over one: what lies below the iterator's beginning is the rounds', what lies at or beyond it is the iterator's. -/
namespace Go.Proofs.YtbfebljahjmjfaaGreatDoor
open Go.RowKit Go.Shelf
set_option linter.unusedVariables false

/-- Of what was there, all that lies at n or beyond lies as it lay. -/
structure Over (n : Nat) (w w' : World) : Prop where
 os : w'.os = w.os
 tape : w'.tape = w.tape
 output : w'.output = w.output
 size : w.heap.size ≤ w'.heap.size
 block : ∀ k, n ≤ k → k < w.heap.size → w'.heap[k]? = w.heap[k]?

theorem Over.refl (n : Nat) (w : World) : Over n w w := ⟨rfl, rfl, rfl, Nat.le_refl _, fun _ _ _ => rfl⟩
theorem Over.trans {n : Nat} {a b c : World} (h : Over n a b) (k : Over n b c) : Over n a c :=
 ⟨k.os.trans h.os, k.tape.trans h.tape, k.output.trans h.output, Nat.le_trans h.size k.size, fun i hn hi => (k.block i hn (Nat.lt_of_lt_of_le hi h.size)).trans (h.block i hn hi)⟩
theorem Over.mono {n m : Nat} {a b : World} (h : Over n a b) (hm : n ≤ m) : Over m a b := ⟨h.os, h.tape, h.output, h.size, fun i hi => h.block i (Nat.le_trans hm hi)⟩
theorem Over.cell {n : Nat} {a b : World} (h : Over n a b) {p : Addr} (hn : n ≤ p.block) (hl : p.block < a.heap.size) : b.cell? p = a.cell? p := World.cell?_of_block (h.block _ hn hl)

/-- All that lies below n, and all cells, lie as they lay. -/
structure Kept (n : Nat) (w w' : World) : Prop where
 os : w'.os = w.os
 tape : w'.tape = w.tape
 output : w'.output = w.output
 size : w.heap.size ≤ w'.heap.size
 block : ∀ k o, w.heap[k]? = some o → k < n ∨ o.isCells = true → w'.heap[k]? = some o

theorem Kept.refl (n : Nat) (w : World) : Kept n w w := ⟨rfl, rfl, rfl, Nat.le_refl _, fun _ _ h _ => h⟩
theorem Kept.trans {n : Nat} {a b c : World} (h : Kept n a b) (k : Kept n b c) : Kept n a c :=
 ⟨k.os.trans h.os, k.tape.trans h.tape, k.output.trans h.output, Nat.le_trans h.size k.size, fun i o ho hi => k.block i o (h.block i o ho hi) hi⟩
theorem Kept.mono {n m : Nat} {a b : World} (h : Kept m a b) (hm : n ≤ m) : Kept n a b := ⟨h.os, h.tape, h.output, h.size, fun i o ho hi => h.block i o ho (hi.imp (fun h => Nat.lt_of_lt_of_le h hm) id)⟩
theorem Kept.alloc (n : Nat) (w : World) (o : Obj) : Kept n w (w.alloc o) := ⟨rfl, rfl, rfl, by simp, fun i o' ho _ => (Below.heap_alloc w o i (Array.getElem?_eq_some_iff.1 ho).1).trans ho⟩
theorem Kept.put {n : Nat} {w : World} {l : Nat} {o o' : Obj} (hn : n ≤ l) (h : w.heap[l]? = some o') (ho : o'.isCells = false) : Kept n w (w.putObj l o) :=
 ⟨rfl, rfl, rfl, by simp, fun i x hx hi => by
  have hne : i ≠ l := by
   rintro rfl
   rw [h] at hx
   cases hx
   rcases hi with hi | hi
   ·omega
   ·rw [ho] at hi; cases hi
  exact (World.putObj_heap_other hne).trans hx⟩
theorem Kept.below {n : Nat} {a b : World} (h : Kept n a b) (hn : n ≤ a.heap.size) : Below n a b :=
 ⟨h.os, h.tape, h.output, h.size, fun i hi => by
  have : i < a.heap.size := by omega
  rw [h.block i a.heap[i] (Array.getElem?_eq_getElem this) (.inl hi), Array.getElem?_eq_getElem this]⟩
theorem Kept.cell {n : Nat} {a b : World} (h : Kept n a b) {p : Addr} {v : Value} (hc : a.cell? p = some v) : b.cell? p = some v := by
 obtain ⟨o, h1, h2⟩ := cells_of_cell hc
 exact (World.cell?_of_block ((h.block _ o h1 (.inr h2)).trans h1.symm)).trans hc

theorem round_wide {m m' : Nat} {P : Program} {l : Nat} {f : FuncId} {tmps : Array Value} {assign body : Code} {w : World} {R : Ending → World → Prop}
  (h : RoundIn Fence.wide m P l f tmps assign body w R) : RoundIn Fence.wide m' P l f tmps assign body w R := ⟨h.1, fun c cs _ => h.2 c cs (room_wide _)⟩

/-- A call of yield. -/
def Asks (P : Program) (l : Nat) (args : Array Value) (W : World) (R : Ending → World → Prop) : Prop := ∀ m, YieldAt Fence.wide m P l args W R
theorem Asks.of {m : Nat} {P : Program} {l : Nat} {args : Array Value} {W : World} {R : Ending → World → Prop} (h : YieldAt Fence.wide m P l args W R) : Asks P l args W R := fun m' => by
 obtain ⟨fn, tmps, assign, body, hy, hR⟩ := h
 exact ⟨fn, tmps, assign, body, hy, round_wide hR⟩

end Go.Proofs.YtbfebljahjmjfaaGreatDoor
/- entry: slices.AppendSeq over slices.Values. -/
namespace Go.Proofs.YtbfebljahjmjfaaGreatDoor
open Go.RowKit Go.Shelf
set_option linter.unusedVariables false
set_option linter.unusedSimpArgs false
attribute [local go_sem] Oper.semAt_some

theorem str_info7 : (Tryz.prog.info? 9).map (fun i => (i.zero, i.size, i.bytes)) = some (some (.string ⟨#[]⟩), 1, 16) := by kernel_rfl
theorem own_kept7 {m : Nat} {a b : World} {base k n : Nat} {e : TypeId} {v : Value} {xs : List Value} (h : a.ownsRow base e k v n xs) (hk : Kept m a b) : b.ownsRow base e k v n xs := by
 obtain ⟨h1, h2⟩ := h
 refine ⟨h1, ?_⟩
 rcases h2 with h2 | ⟨g, cap, cur, rfl, hg, hh, r⟩
 ·exact .inl h2
 ·exact .inr ⟨g, cap, cur, rfl, hg, hk.block _ _ hh (.inr rfl), r⟩
theorem kept_grown {m : Nat} {X Y : World} {row : Option Nat} (hg : X.grownBy Y row) (hr : ∀ r, row = some r → m ≤ r ∧ ∃ o : Obj, X.heap[r]? = some o ∧ o.isCells = false) : Kept m X Y :=
 ⟨hg.os, hg.tape, hg.output, hg.size, fun k o ho hi => (hg.block k (lt_of_heap ho) (fun e => by
  obtain ⟨h1, o', h2, h3⟩ := hr k e.symm
  rw [ho] at h2
  injection h2 with h2
  subst h2
  rcases hi with hi | hi
  ·omega
  ·rw [h3] at hi; cases hi)).trans ho⟩

theorem own_base7 {W : World} {base base' n size : Nat} {e : TypeId} {v : Value} {xs : List Value} (h : W.ownsRow base e size v n xs) (hb : base' ≤ base) : W.ownsRow base' e size v n xs := by
 refine ⟨h.1, ?_⟩
 rcases h.2 with h2 | ⟨g, cap, cur, hA, hg, r⟩
 ·exact .inl h2
 ·exact .inr ⟨g, cap, cur, hA, Nat.le_trans hb hg, r⟩
/-- What a round of AppendSeq finds: the box of its slice, which has what came. -/
structure ApI (w : World) (b : Nat) (pre : List Txt) (W : World) : Prop where
 le : w.heap.size = b
 ex : ∃ A c, W.heap[b]? = some (.cells #[.slice A pre.length c] 68 (0, 0)) ∧ W.ownsRow (b + 1) 9 1 (.slice A pre.length c) pre.length (pre.map tv)
 bel : Below b w W
theorem own_block_ne {W : World} {base b n : Nat} {A : Option Addr} {c : Nat} {xs : List Value} (h : W.ownsRow base 9 1 (.slice A n c) n xs) (hb : b < base) : (Value.slice A n c).ownBlock ≠ some b := fun e => by
 have := (h.lt b e).1
 omega

set_option maxRecDepth 100000 in
set_option maxHeartbeats 4000000 in
theorem appendseq_is (A : Option Addr) (n c B : Nat) (l : List Txt) (w : World) (hB : w.cell? ⟨B, 0, none⟩ = some (.slice A n c)) (h : StrsIn w A n l) (hn : n ≤ 1000000) :
  Calls Tryz.prog 343 #[.slice none 0 0, .func (.func 321) #[] #[.pointer (some ⟨B, 0, none⟩)]] w fun e w' => ∃ A' c', e = .returned (.slice A' n c') ∧ w'.ownsRow w.heap.size 9 1 (.slice A' n c') n (l.map tv) ∧ Keeps [] w w' := by
 obtain ⟨iu, hiu, hzu0, hzu1, hzu2⟩ := info_parts str_info7
 have HS := Lib.hid h
 have HB := Lib.hid hB
 have hBl := lt_of_cell hB
 have hA0 : 0 < n → ∀ b o, A = some ⟨b, o, none⟩ → b < w.heap.size := fun h0 b o e => by
  obtain ⟨b', o', e', hc⟩ := h.2.2 h0
  rw [e] at e'
  injection e' with e'
  injection e' with e1 e2 e3
  subst e1 e2
  obtain ⟨s, hu⟩ : ∃ s, l[0]? = some s := ⟨_, List.getElem?_eq_getElem (by rw [h.1]; exact h0)⟩
  exact lt_of_cell (hc 0 s hu)
 have HA0 := Lib.hid hA0
 have HLN : Hid (l.length = n) := h.1
 clear h hB hA0
 refine (callsIn_wide (n := 3)).1 ?_
 refine callsIn_of_wp_marks Tryz.func343 rfl trivial ?_ rfl
 simp only [Tryz.ntmps343, List.size_toArray, List.length_cons, List.length_nil, Nat.reduceAdd, Nat.reduceSub, Array.replicate_succ, Array.replicate_zero, List.push_toArray, List.append_toArray, List.nil_append, List.cons_append]
 gi_wp2
 have HK0 : Hid (Keeps [] w (w.alloc (.cells #[.slice none 0 0] 68))) := (Keeps.refl [] w).alloc _
 have hb0 : (w.alloc (.cells #[.slice none 0 0] 68)).heap[w.heap.size]? = some (.cells #[.slice none 0 0] 68 (0, 0)) := World.alloc_heap_new w _
 have hz0 : (w.alloc (.cells #[.slice none 0 0] 68)).heap.size = w.heap.size + 1 := by simp
 have hbe : Below w.heap.size w (w.alloc (.cells #[.slice none 0 0] 68)) := (Below.refl _ w).alloc (Nat.le_refl _) _
 obtain ⟨W0, hW0⟩ : ∃ W0, w.alloc (.cells #[.slice none 0 0] 68) = W0 := ⟨_, rfl⟩
 rw [hW0] at HK0 hb0 hz0 hbe ⊢
 obtain ⟨b, hb⟩ : ∃ b, w.heap.size = b := ⟨_, rfl⟩
 have HI0 : Hid (ApI w b [] W0) := ⟨hb, ⟨none, 0, by rw [← hb]; exact hb0, World.ownsRow_nil _ _ _ _⟩, by rw [← hb]; exact hbe⟩
 have HWB := Lib.hid hb
 simp only [hb]
 rw [hb] at hz0 hBl
 clear hW0 hb0 hbe hb
 refine wpIn_rangeFunc_ownF rfl (by omega) (gf := 321) (lb := #[.pointer (some ⟨B, 0, none⟩)]) rfl trivial (enters_of Tryz.func321 (by kernel_rfl) rfl)
  (viter_stops Fence.wide (3 - 1) trivial rfl (by omega) B b n c A l (by omega) W0 (by omega) (by omega) ((HK0.out.cell (p := ⟨B, 0, none⟩) (by rw [HWB.out]; exact hBl) (by simp)).trans HB.out) (StrsIn.grow HK0.out HS.out) (fun h0 b' o e => by have := HA0.out h0 b' o e; have := HWB.out; omega)) (fun h k => h.trans k) (fun W l' o o' hl hx h1 h2 => belowK_b (w := W0) (by omega) W l' o o' hl hx h1 h2) (Below.refl _ _) (fun _ => rfl)
  (fun pre W => ApI w b pre W)
  (fun _ _ _ => False)
  (fun pre X Y row h hg hr => by
   have hk := kept_grown hg hr
   obtain ⟨A', c', h1, h2⟩ := h.ex
   refine ⟨h.le, ⟨A', c', hk.block _ _ h1 (.inr rfl), own_kept7 h2 hk⟩, h.bel.trans ((hk.mono (n := b) (by omega)).below (by have := h.bel.size; have := h.le; omega))⟩)
  (fun _ _ _ _ _ hs _ _ => hs)
  HI0.out
  (fun x => { tmps := #[.slice none 0 0, .func (.func 321) #[] #[.pointer (some ⟨B, 0, none⟩)], .pointer (some ⟨b, 0, none⟩), undef, .slice none 0 0, tv x, .func (.func 321) #[] #[.pointer (some ⟨B, 0, none⟩)], tv x, undef, undef, undef, undef, undef], defers := [] }) ?assign ?body ?done ?stop
 case assign =>
  intro l' x W K hK
  unfold tv at *
  gi_wp2
  exact hK
 case body =>
  rintro lp pre x W h hpl
  obtain ⟨A', c', h1, h2⟩ := h.ex
  have hc1 := cell_of_blk h1 0
  have hf1 := free_of_blk h1 0
  have HV := Lib.hid h
  have HO := Lib.hid h2
  have H1 := Lib.hid h1
  have hpn : pre.length ≤ 1000000 := by rw [HLN.out] at hpl; omega
  have hbW : b < W.heap.size := lt_of_heap h1
  have hbl := h.bel.size
  simp only [List.getElem?_toArray, List.getElem?_cons_zero] at hc1
  clear h h1 h2 hpl
  obtain ⟨m, hm⟩ : ∃ m, pre.length = m := ⟨_, rfl⟩
  rw [hm] at hc1 HO hpn H1
  unfold tv
  gi_wp2_with (gi_at_builtin; refine wpListIn_append_own _ rfl (.tmp 8) (.tmp 10) 68 rfl (b + 1) 9 iu (.string ⟨#[]⟩) 1 16 Tryz.underlying68 hiu hzu0 hzu1 hzu2 rfl (by decide) (.slice A' m c') m (pre.map tv) rfl (own_keep HO.out ((Keeps.refl [] W).alloc _) (by simp)) ⟨W.heap.size, 0, none⟩ 1 1 [tv x] rfl rfl (cell_one_new _ _ _) (by simp [Value.oneCell', tv]) (by unfold maxLen; omega) (by omega) (by simp; omega) ?_; intro v' w3 ho hg3 hnil3; obtain ⟨A3, c3, hv3⟩ := own_slice ho; subst hv3; have h3 := (hg3.block b (by simp; omega) (fun e => own_block_ne HO.out (Nat.lt_succ_self b) e.symm)).trans ((Below.heap_alloc _ _ b hbW).trans H1.out); have hc3 := cell_of_blk h3 0; have hf3 := free_of_blk h3 0; simp only [List.getElem?_toArray, List.getElem?_cons_zero] at hc3; have HO3 := Lib.hid ho; have HG3 := Lib.hid hg3; have H3 := Lib.hid h3; clear ho hg3 hnil3 h3)
  have hkb : Keeps (Value.slice A' m c').ownBlock.toList (W.alloc (.cells #[tv x] 9)) w3 := Keeps.of_grown HG3.out (fun y hy => .inl (by rw [hy]; simp))
  have hblk : ∀ y ∈ (Value.slice A' m c').ownBlock.toList, b + 1 ≤ y := fun y hy => by
   have h9 : (Value.slice A' m c').ownBlock = some y := by simpa using hy
   exact (HO.out.lt y h9).1
  have hk3 : Keeps (b :: (Value.slice A' m c').ownBlock.toList) W (w3.setCell ⟨b, 0, none⟩ (.slice A3 (m + 1) c3)) :=
   (((Keeps.refl _ W).alloc _).trans hkb (fun y hy => .inl (by simp [hy]))).setCell (.inl (by simp)) _
  have hbelow : Below b W (w3.setCell ⟨b, 0, none⟩ (.slice A3 (m + 1) c3)) := hk3.below (by omega) (fun y hy => by
   rcases List.mem_cons.1 hy with hy | hy
   ·omega
   ·have := hblk y hy; omega)
  show KeepsOthers W (w3.setCell ⟨b, 0, none⟩ (.slice A3 (m + 1) c3)) ∧ Below b W (w3.setCell ⟨b, 0, none⟩ (.slice A3 (m + 1) c3)) ∧ ApI w b (pre ++ [x]) (w3.setCell ⟨b, 0, none⟩ (.slice A3 (m + 1) c3))
  refine ⟨⟨hk3.size, fun k o ho hcel => ?_⟩, hbelow, HV.out.le, ⟨A3, c3, ?_, ?_⟩, HV.out.bel.trans hbelow⟩
  ·refine (hk3.block k (lt_of_heap ho) (fun hm => ?_)).trans ho
   rcases List.mem_cons.1 hm with rfl | hm
   ·rw [H1.out] at ho
    cases ho
    simp [Obj.isCells] at hcel
   ·have h9 : (Value.slice A' m c').ownBlock = some k := by simpa using hm
    rcases HO.out.2 with ⟨hv, h2⟩ | ⟨g, cap, cur, hA, hg, hh, r⟩
    ·rw [hv] at h9; simp [Value.ownBlock] at h9
    ·injection hA with e1 e2 e3
     subst e1
     simp [Value.ownBlock] at h9
     subst h9
     rw [hh] at ho
     cases ho
     simp [Obj.isCells] at hcel
  ·have := heap_setCell_same w3 b 0 _ 68 (.slice A3 (m + 1) c3) H3.out
   rw [List.length_append, hm]
   exact this
  ·have h8 := own_keep HO3.out (show Keeps [b] w3 (w3.setCell ⟨b, 0, none⟩ (.slice A3 (m + 1) c3)) from (Keeps.refl [b] w3).setCell (.inl (by simp)) _) (fun y hy hm => by
    have := (HO3.out.lt y hy).1
    simp at hm
    omega)
   rw [List.length_append, hm, List.map_append]
   exact h8
 case done =>
  rintro D ys W hD rfl h hK
  obtain ⟨A', c', h1, h2⟩ := h.ex
  rw [HLN.out] at h1 h2
  have hc1 := cell_of_blk h1 0
  simp only [List.getElem?_toArray, List.getElem?_cons_zero] at hc1
  have HV := Lib.hid h
  have HO := Lib.hid h2
  clear h h1 h2
  gi_wp2
  refine ⟨by simp, .inl ⟨_, _, rfl, run_takeDeferred hK, ?_⟩⟩
  have hbW : b < W.heap.size := lt_of_cell hc1
  refine ⟨_, results_tmp rfl _ _ _, A', c', rfl, ?_, ?_⟩
  ·exact own_base7 (own_kept7 HO.out (Kept.put (n := b + 1) (by omega) hK rfl)) (by rw [HWB.out]; omega)
  ·exact Keeps.of_below (by rw [HWB.out]; exact HV.out.bel.trans (((Kept.put (n := b + 1) (by omega) hK rfl).below (by omega)).mono (by omega)))
 case stop =>
  rintro D c' pre W _ _ h _
  exact h.elim
theorem collect_is (A : Option Addr) (n c B : Nat) (l : List Txt) (w : World) (hB : w.cell? ⟨B, 0, none⟩ = some (.slice A n c)) (h : StrsIn w A n l) (hn : n ≤ 1000000) :
  Calls Tryz.prog 320 #[.func (.func 321) #[] #[.pointer (some ⟨B, 0, none⟩)]] w fun e w' => ∃ A' c', e = .returned (.slice A' n c') ∧ w'.ownsRow w.heap.size 9 1 (.slice A' n c') n (l.map tv) ∧ Keeps [] w w' := by
 have HA := Lib.hid (appendseq_is A n c B l w hB h hn)
 clear hB h hn
 go_enter Tryz.func320, Tryz.ntmps320
 go_wp2_with fail
 refine HA.out.mono ?_
 rintro e w1 ⟨A', c', rfl, h1, h2⟩
 have H1 := Lib.hid h1
 have H2 := Lib.hid h2
 clear h1 h2
 go_wp2_with fail
 go_ret
 exact ⟨A', c', rfl, H1.out, H2.out⟩
end Go.Proofs.YtbfebljahjmjfaaGreatDoor
/- entry: texts sorted (slices.Sort, by the shelf), and each once (slices.Compact). -/
namespace Go.Proofs.YtbfebljahjmjfaaGreatDoor
open Go.RowKit Go.Maps Go.Sort Go.Shelf
set_option linter.unusedVariables false
set_option linter.unusedSimpArgs false
set_option maxRecDepth 100000

def msort_ren : Go.Shelf.Ren := ⟨fun | 6 => 124 | 8 => 191 | 9 => 190 | 19 => 253 | 20 => 254 | 21 => 244 | 22 => 245 | 23 => 246 | 24 => 247 | 25 => 248 | 26 => 249 | 27 => 250 | 28 => 251 | 29 => 252 | 36 => 288 | 31 => 289 | 32 => 290 | 37 => 291 | 38 => 292 | 39 => 293 | 41 => 322 | n => n, fun | 27 => 68 | 29 => 9 | 3 => 3 | 32 => 213 | 26 => 68 | 0 => 0 | 44 => 274 | 46 => 223 | 4 => 4 | 36 => 267 | 35 => 266 | 41 => 271 | 5 => 5 | 9 => 9 | 53 => 309 | 57 => 313 | 63 => 340 | 64 => 341 | n => n, fun n => n⟩

theorem msort_lays : SlLaysM.n6 Tryz.prog msort_ren where
 mixed := by kernel_rfl
 f6 := ⟨Tryz.f124.name, of_decide_eq_true (by kernel_rfl), Tryz.func124.trans (congrArg some (by kernel_rfl))⟩
 f8 := Tryz.func191.trans (congrArg some (by kernel_rfl))
 f9 := ⟨Tryz.f190.name, of_decide_eq_true (by kernel_rfl), Tryz.func190.trans (congrArg some (by kernel_rfl))⟩
 f19 := Tryz.func253.trans (congrArg some (by kernel_rfl))
 f20 := Tryz.func254.trans (congrArg some (by kernel_rfl))
 f21 := ⟨Tryz.f244.name, of_decide_eq_true (by kernel_rfl), Tryz.func244.trans (congrArg some (by kernel_rfl))⟩
 f22 := ⟨Tryz.f245.name, of_decide_eq_true (by kernel_rfl), Tryz.func245.trans (congrArg some (by kernel_rfl))⟩
 f23 := ⟨Tryz.f246.name, of_decide_eq_true (by kernel_rfl), Tryz.func246.trans (congrArg some (by kernel_rfl))⟩
 f24 := ⟨Tryz.f247.name, of_decide_eq_true (by kernel_rfl), Tryz.func247.trans (congrArg some (by kernel_rfl))⟩
 f25 := ⟨Tryz.f248.name, of_decide_eq_true (by kernel_rfl), Tryz.func248.trans (congrArg some (by kernel_rfl))⟩
 f26 := ⟨Tryz.f249.name, of_decide_eq_true (by kernel_rfl), Tryz.func249.trans (congrArg some (by kernel_rfl))⟩
 f27 := ⟨Tryz.f250.name, of_decide_eq_true (by kernel_rfl), Tryz.func250.trans (congrArg some (by kernel_rfl))⟩
 f28 := ⟨Tryz.f251.name, of_decide_eq_true (by kernel_rfl), Tryz.func251.trans (congrArg some (by kernel_rfl))⟩
 f29 := ⟨Tryz.f252.name, of_decide_eq_true (by kernel_rfl), Tryz.func252.trans (congrArg some (by kernel_rfl))⟩
 f31 := Tryz.func289.trans (congrArg some (by kernel_rfl))
 f32 := Tryz.func290.trans (congrArg some (by kernel_rfl))
 f36 := ⟨Tryz.f288.name, of_decide_eq_true (by kernel_rfl), Tryz.func288.trans (congrArg some (by kernel_rfl))⟩
 f37 := ⟨Tryz.f291.name, of_decide_eq_true (by kernel_rfl), Tryz.func291.trans (congrArg some (by kernel_rfl))⟩
 f38 := ⟨Tryz.f292.name, of_decide_eq_true (by kernel_rfl), Tryz.func292.trans (congrArg some (by kernel_rfl))⟩
 f39 := ⟨Tryz.f293.name, of_decide_eq_true (by kernel_rfl), Tryz.func293.trans (congrArg some (by kernel_rfl))⟩
 f41 := ⟨Tryz.f322.name, of_decide_eq_true (by kernel_rfl), Tryz.func322.trans (congrArg some (by kernel_rfl))⟩
 t0 := Tryz.underlying0
 a0 := Tryz.isAgg0
 z0 := Tryz.sizeOf0
 v0 := Tryz.zeroValue0
 t3 := Tryz.underlying3
 a3 := Tryz.isAgg3
 z3 := Tryz.sizeOf3
 v3 := Tryz.zeroValue3
 t4 := Tryz.underlying4
 a4 := Tryz.isAgg4
 z4 := Tryz.sizeOf4
 v4 := Tryz.zeroValue4
 t5 := Tryz.underlying5
 a5 := Tryz.isAgg5
 z5 := Tryz.sizeOf5
 v5 := Tryz.zeroValue5
 t9 := Tryz.underlying9
 a9 := Tryz.isAgg9
 z9 := Tryz.sizeOf9
 v9 := Tryz.zeroValue9
 t26 := Tryz.underlying68
 a26 := Tryz.isAgg68
 z26 := Tryz.sizeOf68
 v26 := Tryz.zeroValue68
 t27 := Tryz.underlying68
 a27 := Tryz.isAgg68
 z27 := Tryz.sizeOf68
 v27 := Tryz.zeroValue68
 t29 := Tryz.underlying9
 a29 := Tryz.isAgg9
 z29 := Tryz.sizeOf9
 v29 := Tryz.zeroValue9
 t32 := Tryz.underlying213
 a32 := Tryz.isAgg213
 z32 := Tryz.sizeOf213
 v32 := Tryz.zeroValue213
 t35 := Tryz.underlying266
 a35 := Tryz.isAgg266
 z35 := Tryz.sizeOf266
 v35 := Tryz.zeroValue266
 t36 := Tryz.underlying267
 a36 := Tryz.isAgg267
 z36 := Tryz.sizeOf267
 v36 := Tryz.zeroValue267
 t41 := Tryz.underlying271
 a41 := Tryz.isAgg271
 z41 := Tryz.sizeOf271
 v41 := Tryz.zeroValue271
 t44 := Tryz.underlying274
 a44 := Tryz.isAgg274
 z44 := Tryz.sizeOf274
 v44 := Tryz.zeroValue274
 t46 := Tryz.underlying223
 a46 := Tryz.isAgg223
 z46 := Tryz.sizeOf223
 v46 := Tryz.zeroValue223
 t53 := Tryz.underlying309
 a53 := Tryz.isAgg309
 z53 := Tryz.sizeOf309
 v53 := Tryz.zeroValue309
 t57 := Tryz.underlying313
 a57 := Tryz.isAgg313
 z57 := Tryz.sizeOf313
 v57 := Tryz.zeroValue313
 t63 := Tryz.underlying340
 a63 := Tryz.isAgg340
 z63 := Tryz.sizeOf340
 v63 := Tryz.zeroValue340
 t64 := Tryz.underlying341
 a64 := Tryz.isAgg341
 z64 := Tryz.sizeOf341
 v64 := Tryz.zeroValue341


def compact_ren : Go.Shelf.Ren := ⟨fun | 194 => 125 | n => n, fun | 0 => 0 | 3 => 3 | 4 => 4 | 9 => 9 | 31 => 68 | n => n, fun n => n⟩
theorem compact_lays : Lays.n194 Tryz.prog compact_ren where
 mixed := by kernel_rfl
 f194 := Tryz.func125.trans (congrArg some (by kernel_rfl))
 t0 := Tryz.underlying0
 a0 := Tryz.isAgg0
 z0 := Tryz.sizeOf0
 v0 := Tryz.zeroValue0
 t3 := Tryz.underlying3
 a3 := Tryz.isAgg3
 z3 := Tryz.sizeOf3
 v3 := Tryz.zeroValue3
 t4 := Tryz.underlying4
 a4 := Tryz.isAgg4
 z4 := Tryz.sizeOf4
 v4 := Tryz.zeroValue4
 t9 := Tryz.underlying9
 a9 := Tryz.isAgg9
 z9 := Tryz.sizeOf9
 v9 := Tryz.zeroValue9
 t31 := Tryz.underlying68
 a31 := Tryz.isAgg68
 z31 := Tryz.sizeOf68
 v31 := Tryz.zeroValue68

theorem row_holds {W : World} {base g n c : Nat} {l : List Txt} (h : W.ownsRow base 9 1 (.slice (some ⟨g, 0, none⟩) n c) n (l.map tv)) (hn : l.length = n) (hp : 0 < n) :
  Holds encStr W g 0 l.toArray ∧ base ≤ g ∧ n ≤ c ∧ c ≤ maxLen ∧ ∃ cur, W.heap[g]? = some (.cells cur 9 (0, 0)) ∧ cur.size = c ∧ cur.toList.take n = l.map tv := by
 rcases h.2 with ⟨_, h2⟩ | ⟨g', cap, cur, hA, hg, hh, r1, r2, r3, r4⟩
 ·exfalso; omega
 ·injection hA with e1 e2 e3
  injection e1 with e1
  injection e1 with e1 _ _
  subst e1 e3
  rw [Nat.mul_one] at r4 r3
  exact ⟨holds_of_block hh (by rw [hn]; exact r4), hg, r1, r2, cur, hh, r3, r4⟩
theorem own_prefix {W : World} {base g n m c : Nat} {e : TypeId} {xs : List Value} (h : W.ownsRow base e 1 (.slice (some ⟨g, 0, none⟩) n c) n xs) (hm : m ≤ n) (hx : xs.length = n) (hp : 0 < n) : W.ownsRow base e 1 (.slice (some ⟨g, 0, none⟩) m c) m (xs.take m) := by
 rcases h.2 with ⟨_, h2⟩ | ⟨g', cap, cur, hA, hg, hh, r1, r2, r3, r4⟩
 ·exfalso; omega
 ·injection hA with e1 e2 e3
  injection e1 with e1
  injection e1 with e1 _ _
  subst e1 e3
  refine ⟨by rw [List.length_take]; omega, .inr ⟨g, c, cur, rfl, hg, hh, by omega, r2, r3, ?_⟩⟩
  rw [Nat.mul_one] at r4 ⊢
  rw [← r4, List.take_take, Nat.min_eq_left hm]
theorem grow_none (w : World) : grow w #[] = w := by
 unfold grow
 simp
set_option maxHeartbeats 2000000 in
theorem sorted_is (A : Option Addr) (n c B : Nat) (l : List Txt) (w : World) (hB : w.cell? ⟨B, 0, none⟩ = some (.slice A n c)) (h : StrsIn w A n l) (hn : n ≤ 1000000) :
  Calls Tryz.prog 286 #[.func (.func 321) #[] #[.pointer (some ⟨B, 0, none⟩)]] w fun e w' => ∃ A' c', e = .returned (.slice A' n c') ∧ w'.ownsRow w.heap.size 9 1 (.slice A' n c') n ((l.mergeSort fun a b => decide (a ≤ b)).map tv) ∧ Keeps [] w w' := by
 have HA := Lib.hid (collect_is A n c B l w hB h hn)
 have HL : Hid (l.length = n) := h.1
 clear hB h
 go_enter Tryz.func286, Tryz.ntmps286
 go_wp2_with fail
 refine HA.out.mono ?_
 rintro e w1 ⟨A', c', rfl, h1, h2⟩
 have H1 := Lib.hid h1
 have H2 := Lib.hid h2
 clear h1 h2
 go_wp2_with fail
 rcases Nat.eq_zero_or_pos n with h0 | h0
 ·subst h0
  have hl : l = [] := List.length_eq_zero_iff.1 HL.out
  subst hl
  refine (AnyM.slices_Sort_string_none msort_lays A' c' w1).mono ?_
  rintro e w2 ⟨rfl, rfl⟩
  go_wp2_with fail
  go_ret
  exact ⟨A', c', rfl, by simpa using H1.out, H2.out⟩
 ·obtain ⟨g, c2, hv⟩ : ∃ g c2, Value.slice A' n c' = .slice (some ⟨g, 0, none⟩) n c2 := by
   rcases H1.out.2 with ⟨_, h2⟩ | ⟨g, cap, cur, hA, _⟩
   ·exfalso; omega
   ·exact ⟨g, cap, hA⟩
  injection hv with e1 _ e3
  subst e1 e3
  obtain ⟨hH, hbase, hc1, hc2, cur, hcur, hsz, htk⟩ := row_holds H1.out HL.out h0
  have HS := AnyM.slices_Sort_string msort_lays g 0 c' l w1 hH (lt_of_heap hcur) (by rw [HL.out]; omega)
  rw [HL.out] at HS
  have HS2 := Lib.hid HS
  clear HS
  refine HS2.out.mono ?_
  rintro e w2 ⟨rfl, k, os, rfl⟩
  have hrow := ownsRow_sorted (w := w1) (n := k) (os := os) (ss := l) (ts := l.mergeSort fun a b => decide (a ≤ b)) (by simp) hbase hcur (by rw [HL.out]; exact hc1) hc2 (by rw [hsz, Nat.mul_one])
  have hg := grownBy_sorted (w := w1) (g := g) (n := k) (os := os) (l.mergeSort fun a b => decide (a ≤ b)).toArray
  have hkk : Keeps [g] w1 (grow (putRow encStr (Sort.ahead w1 k) g 0 (l.mergeSort fun a b => decide (a ≤ b)).toArray) os) := Keeps.of_grown hg (fun x hx => .inl (by cases hx; simp))
  rw [HL.out] at hrow
  have HR := Lib.hid hrow
  have HK : Hid (Keeps [] w (grow (putRow encStr (Sort.ahead w1 k) g 0 (l.mergeSort fun a b => decide (a ≤ b)).toArray) os)) := H2.out.trans hkk (fun x hx => .inr (by simp at hx; subst hx; exact hbase))
  clear hrow hg hkk hH hcur htk
  generalize grow (putRow encStr (Sort.ahead w1 k) g 0 (l.mergeSort fun a b => decide (a ≤ b)).toArray) os = w2 at *
  go_wp2_with fail
  go_ret
  exact ⟨some ⟨g, 0, none⟩, c', rfl, HR.out, HK.out⟩

/-- Texts put in order, each once, in new memory. -/
def OrdQ (l : List Txt) (w : World) (e : Ending) (w' : World) : Prop :=
 ∃ A' c', e = .returned (.slice A' (ordS l).length c') ∧ w'.ownsRow w.heap.size 9 1 (.slice A' (ordS l).length c') (ordS l).length ((ordS l).map tv) ∧ Keeps [] w w'
theorem compact_len (l : List Txt) : (Go.Lib.compact l).length ≤ l.length := by
 unfold Go.Lib.compact Go.Lib.compactUpTo
 rw [List.length_map]
 have := List.length_filter_le (Go.Lib.keeps l.toArray) (List.range l.length)
 simpa using this
set_option maxHeartbeats 2000000 in
theorem ordered_is (A : Option Addr) (n c : Nat) (l : List Txt) (w : World) (h : StrsIn w A n l) (hn : n ≤ 1000000) :
  Calls Tryz.prog 243 #[.slice A n c] w (OrdQ l w) := by
 have HV := Lib.hid (values_is A n c w)
 have HW0 : Hid (Keeps [] w (w.alloc (.cells #[.slice A n c] 68))) := (Keeps.refl [] w).alloc _
 have HSO := Lib.hid (sorted_is A n c w.heap.size l (w.alloc (.cells #[.slice A n c] 68)) (by rw [World.cell?_alloc_new]; rfl) (StrsIn.grow HW0.out h) hn)
 have HL : Hid (l.length = n) := h.1
 have hz : (w.alloc (.cells #[.slice A n c] 68)).heap.size = w.heap.size + 1 := by simp
 clear h
 go_enter Tryz.func243, Tryz.ntmps243
 go_wp2_with fail
 refine HV.out.mono ?_
 rintro e w1 ⟨rfl, rfl⟩
 go_wp2_with fail
 refine HSO.out.mono ?_
 rintro e w2 ⟨A', c', rfl, h1, h2⟩
 have H1 := Lib.hid h1
 have H2 := Lib.hid (HW0.out.trans' h2)
 clear h1 h2
 go_wp2_with fail
 obtain ⟨ms, hms⟩ : ∃ ms, (l.mergeSort fun a b => decide (a ≤ b)) = ms := ⟨_, rfl⟩
 have HML : Hid (ms.length = n) := by show _ = _; rw [← hms, List.length_mergeSort]; exact HL.out
 have HOS : Hid (ordS l = Go.Lib.compact ms) := by show _ = _; unfold ordS; rw [hms]
 rw [hms] at H1
 clear hms
 rcases Nat.eq_zero_or_pos n with h0 | h0
 ·subst h0
  have hl : ms = [] := List.length_eq_zero_iff.1 HML.out
  have hoe : ordS l = [] := by rw [HOS.out, hl]; rfl
  refine (Any.slices_Compact_string_empty compact_lays A' c' w2).mono ?_
  rintro e w3 ⟨rfl, rfl⟩
  go_wp2_with fail
  go_ret
  refine ⟨A', c', by rw [hoe]; rfl, ?_, H2.out⟩
  rw [hoe]
  have h9 := H1.out
  rw [hl] at h9
  exact own_base7 h9 (by rw [hz]; omega)
 ·obtain ⟨g, c2, hv⟩ : ∃ g c2, Value.slice A' n c' = .slice (some ⟨g, 0, none⟩) n c2 := by
   rcases H1.out.2 with ⟨_, h2⟩ | ⟨g, cap, cur, hA, _⟩
   ·exfalso; omega
   ·exact ⟨g, cap, hA⟩
  injection hv with e1 _ e3
  subst e1 e3
  obtain ⟨hH, hbase, hc1, hc2, cur, hcur, hsz, htk⟩ := row_holds H1.out HML.out h0
  have HS := Any.slices_Compact_string compact_lays g 0 c' ms w2 hH (by rw [HML.out]; omega) (by rw [HML.out]; exact hc1)
  rw [HML.out, ← HOS.out] at HS
  have HS2 := Lib.hid HS
  have hle := compact_len ms
  rw [← HOS.out, HML.out] at hle
  clear HS
  refine HS2.out.mono ?_
  rintro e w3 ⟨rfl, q, rfl⟩
  obtain ⟨os, hos⟩ : ∃ os, ordS l = os := ⟨_, rfl⟩
  rw [hos] at hle ⊢
  have HOQ := Lib.hid hos
  obtain ⟨ts, hts⟩ : ∃ ts, os ++ List.replicate (n - os.length) ([] : List UInt8) = ts := ⟨_, rfl⟩
  have htl : ts.length = ms.length := by rw [← hts, List.length_append, List.length_replicate, HML.out]; omega
  have htt : ts.take os.length = os := by rw [← hts]; simp
  rw [hts]
  have hrow := ownsRow_sorted (w := w2) (n := q) (os := #[]) (ss := ms) (ts := ts) htl hbase hcur (by rw [HML.out]; exact hc1) hc2 (by rw [hsz, Nat.mul_one])
  have hg := grownBy_sorted (w := w2) (g := g) (n := q) (os := #[]) ts.toArray
  rw [show grow (putRow encStr (Sort.ahead w2 q) g 0 ts.toArray) #[] = putRow encStr (Sort.ahead w2 q) g 0 ts.toArray from grow_none _] at hrow hg
  rw [HML.out] at hrow
  have hkk : Keeps [g] w2 (putRow encStr (Sort.ahead w2 q) g 0 ts.toArray) := Keeps.of_grown hg (fun x hx => .inl (by cases hx; simp))
  have hpre := own_prefix hrow hle (by rw [List.length_map, htl, HML.out]) h0
  rw [← List.map_take, htt] at hpre
  have HR := Lib.hid (own_base7 hpre (show w.heap.size ≤ _ by rw [hz]; omega))
  have HK : Hid (Keeps [] w (putRow encStr (Sort.ahead w2 q) g 0 ts.toArray)) := H2.out.trans hkk (fun x hx => .inr (by simp at hx; subst hx; omega))
  clear hrow hg hkk hH hcur htk hpre htt hts
  generalize putRow encStr (Sort.ahead w2 q) g 0 ts.toArray = w3 at *
  go_wp2_with fail
  go_ret
  unfold OrdQ
  rw [HOQ.out]
  exact ⟨some ⟨g, 0, none⟩, c', rfl, HR.out, HK.out⟩
end Go.Proofs.YtbfebljahjmjfaaGreatDoor
