import Derived.Test.YtbfebljahjmjfaaGreatDoorQ18
import Derived.BigQuiet
import Derived.Shelf.Strings.IndexAnyAll
import Derived.Lib.MapLaws
import Derived.Laws.Runes
import Derived.Lib.OthersKept
import Derived.Lib.TrimUEq
/- filter: strings.CutPrefix, the rest of a text, what takes off it; walked. -/
namespace Go.Proofs.YtbfebljahjmjfaaGreatDoor
open Go.RowKit Go.Shelf
set_option linter.unusedVariables false
set_option linter.unusedSimpArgs false
set_option maxRecDepth 100000

/-- What stands behind a beginning, and whether the text begins so. -/
def behP (p s : Txt) : Txt := if begP p s = true then s.drop p.length else s
theorem behP_yes {p s : Txt} (h : begP p s = true) : behP p s = s.drop p.length := by unfold behP; rw [if_pos h]
theorem behP_no {p s : Txt} (h : begP p s = false) : behP p s = s := by unfold behP; rw [if_neg (by rw [h]; simp)]
theorem begP_len {p s : Txt} (h : begP p s = true) : p.length ≤ s.length := by
 unfold begP at h
 have h9 := congrArg List.length (eq_of_beq h)
 rw [List.length_take] at h9
 omega
theorem behP_len (p s : Txt) : (behP p s).length ≤ s.length := by
 unfold behP
 split
 ·rw [List.length_drop]; omega
 ·exact Nat.le_refl _
theorem str_from8 (T : Txt) (i : Nat) (hi : i ≤ T.length) (W : World) : (Instr.slice 9 (.string ⟨T.toArray⟩) (some (.int .i64 (i : Int))) none none).run Tryz.prog W = .ok (.string ⟨(T.drop i).toArray⟩) W := by
 rw [run_slice_string_from_if W 9 ⟨T.toArray⟩ .i64 (i : Int) Tryz.underlying9, if_pos ⟨by omega, by show (i : Int) ≤ (T.length : Int); omega⟩]
 rw [show ((i : Int)).toNat = i by omega, ByteArray.extract_mk]
 congr 2
 show ByteArray.mk (List.take (T.length - i) (T.drop i)).toArray = _
 rw [List.take_of_length_le (by rw [List.length_drop]; omega)]
theorem rst_from8 (T : Txt) (i : Nat) (hi : i ≤ T.length) (W : World) : (Instr.slice 113 (.string ⟨T.toArray⟩) (some (.int .i64 (i : Int))) none none).run Tryz.prog W = .ok (.string ⟨(T.drop i).toArray⟩) W := by
 rw [run_slice_string_from_if W 113 ⟨T.toArray⟩ .i64 (i : Int) Tryz.underlying113, if_pos ⟨by omega, by show (i : Int) ≤ (T.length : Int); omega⟩]
 rw [show ((i : Int)).toNat = i by omega, ByteArray.extract_mk]
 congr 2
 show ByteArray.mk (List.take (T.length - i) (T.drop i)).toArray = _
 rw [List.take_of_length_le (by rw [List.length_drop]; omega)]
theorem rst_to8 (T : Txt) (j : Nat) (hj : j ≤ T.length) (W : World) : (Instr.slice 113 (.string ⟨T.toArray⟩) none (some (.int .i64 (j : Int))) none).run Tryz.prog W = .ok (.string ⟨(T.take j).toArray⟩) W := by
 rw [run_slice_string_to_if W 113 ⟨T.toArray⟩ .i64 (j : Int) Tryz.underlying113, if_pos ⟨by omega, by show (j : Int) ≤ (T.length : Int); omega⟩]
 rw [show ((j : Int)).toNat = j by omega, ByteArray.extract_mk]
 rfl
theorem slcutp_is (s p : Txt) (w : World) (hs : s.length ≤ 1000000000) (hp : p.length ≤ 1000000000) :
  Calls Tryz.prog 259 #[tv s, tv p] w fun e w' => e = .returned (.tuple #[tv (behP p s), .bool (begP p s)]) ∧ Keeps [] w w' := by
 have HC := Lib.hid (slprefix_is s p w (by omega) (by omega))
 cases hq : begP p s with
 | false =>
  rw [hq] at HC
  rw [behP_no hq]
  clear hq hs hp
  unfold tv at *
  go_enter Tryz.func259, Tryz.ntmps259
  go_wp2_with fail
  refine HC.out.mono ?_
  rintro e w1 ⟨rfl, hk1⟩
  have HK1 := Lib.hid hk1
  clear hk1
  go_wp2_with fail
  refine bodyPost_ret (results_tmp2 rfl _ _ _) rfl ?_
  exact ⟨rfl, HK1.out⟩
 | true =>
  rw [hq] at HC
  rw [behP_yes hq]
  have hl := begP_len hq
  have hf := str_from8 s p.length hl
  obtain ⟨m, hm⟩ : ∃ n, p.length = n := ⟨_, rfl⟩
  have hpz : (⟨p.toArray⟩ : ByteArray).size = m := hm
  rw [hm] at hf ⊢
  clear hq hs hp hl hm
  generalize s.drop m = u at hf ⊢
  unfold tv at *
  go_enter Tryz.func259, Tryz.ntmps259
  go_wp2_with fail
  refine HC.out.mono ?_
  rintro e w1 ⟨rfl, hk1⟩
  have HK1 := Lib.hid hk1
  clear hk1
  go_wp2_with fail
  refine bodyPost_ret (results_tmp2 rfl _ _ _) rfl ?_
  exact ⟨rfl, HK1.out⟩
theorem scutp_is (s p : Txt) (w : World) (hs : s.length ≤ 1000000000) (hp : p.length ≤ 1000000000) :
  Calls Tryz.prog 203 #[tv s, tv p] w fun e w' => e = .returned (.tuple #[tv (behP p s), .bool (begP p s)]) ∧ Keeps [] w w' := by
 have HC := Lib.hid (slcutp_is s p w hs hp)
 generalize begP p s = q at HC ⊢
 generalize behP p s = u at HC ⊢
 clear hs hp
 unfold tv at *
 go_enter Tryz.func203, Tryz.ntmps203
 go_wp2_with fail
 refine HC.out.mono ?_
 rintro e w1 ⟨rfl, hk1⟩
 have HK1 := Lib.hid hk1
 clear hk1
 go_wp2_with fail
 refine bodyPost_ret (results_tmp2 rfl _ _ _) rfl ?_
 exact ⟨rfl, HK1.out⟩
/-- What is left of a text, in memory. -/
def RstAt (w : World) (g : Nat) (T : Txt) : Prop := w.heap[g]? = some (.cells #[.string ⟨T.toArray⟩] 113 (0, 0))
theorem RstAt.cells {w : World} {g : Nat} {T : Txt} (h : RstAt w g T) : w.cell? ⟨g, 0, none⟩ = some (.string ⟨T.toArray⟩) ∧ w.frozen? ⟨g, 0, none⟩ = false := ⟨cell_of_blk h 0, free_of_blk h 0⟩
theorem RstAt.keep {w w' : World} {g : Nat} {T : Txt} {bs : List Nat} (h : RstAt w g T) (hk : Keeps bs w w') (hb : g ∉ bs) : RstAt w' g T := blk_keep h hk hb
theorem RstAt.set {w : World} {g : Nat} {T : Txt} (h : RstAt w g T) (T' : Txt) : RstAt (w.setCell ⟨g, 0, none⟩ (.string ⟨T'.toArray⟩)) g T' := heap_setCell_same w g 0 _ _ (.string ⟨T'.toArray⟩) h
theorem RstAt.lt {w : World} {g : Nat} {T : Txt} (h : RstAt w g T) : g < w.heap.size := lt_of_heap h
theorem has8_is (g : Nat) (T p : Txt) (w : World) (h : RstAt w g T) (hT : T.length ≤ 1000000000) (hp : p.length ≤ 1000000000) :
  Calls Tryz.prog 135 #[.pointer (some ⟨g, 0, none⟩), tv p] w fun e w' => e = .returned (.bool (begP p T)) ∧ RstAt w' g (behP p T) ∧ Keeps [g] w w' := by
 have HR := Lib.hid h
 obtain ⟨c0, f0⟩ := h.cells
 have HC := Lib.hid (scutp_is T p w hT hp)
 generalize begP p T = q at HC ⊢
 generalize behP p T = u at HC ⊢
 clear hT hp h
 unfold tv at *
 go_enter Tryz.func135, Tryz.ntmps135
 go_wp2_with fail
 refine HC.out.mono ?_
 rintro e w1 ⟨rfl, hk⟩
 have HR1 := Lib.hid (HR.out.keep hk (by simp))
 have HK := Lib.hid hk
 clear hk c0 f0
 obtain ⟨c0, f0⟩ := HR1.out.cells
 have HR2 := Lib.hid (HR1.out.set u)
 have HK2 : Hid (Keeps [g] w (w1.setCell ⟨g, 0, none⟩ (.string ⟨u.toArray⟩))) := (HK.out.mono (by simp)).setCell (.inl (by simp)) _
 go_wp2_with fail
 go_ret
 exact ⟨rfl, HR2.out, HK2.out⟩
theorem take8_yes (g : Nat) (T p : Txt) (w : World) (h : RstAt w g T) (hT : T.length ≤ 1000000000) (hp : p.length ≤ 1000000000) (hb : begP p T = true) :
  Calls Tryz.prog 82 #[.pointer (some ⟨g, 0, none⟩), tv p] w fun e w' => e = .returned (.tuple #[]) ∧ RstAt w' g (T.drop p.length) ∧ Keeps [g] w w' := by
 have HC := Lib.hid (has8_is g T p w h hT hp)
 have HM := Lib.hid (must8_yes 180)
 rw [hb, behP_yes hb] at HC
 generalize T.drop p.length = u at HC ⊢
 clear hT hp h hb
 unfold tv at *
 go_enter Tryz.func82, Tryz.ntmps82
 go_wp2_with fail
 refine HC.out.mono ?_
 rintro e w1 ⟨rfl, hr, hk⟩
 have HR1 := Lib.hid hr
 have HK := Lib.hid hk
 clear hk hr
 go_wp2_with fail
 refine (HM.out _).mono ?_
 rintro e w2 ⟨rfl, rfl⟩
 go_wp2_with fail
 go_end0
 exact ⟨rfl, HR1.out, HK.out⟩
theorem take8_no (g : Nat) (T p : Txt) (w : World) (h : RstAt w g T) (hT : T.length ≤ 1000000000) (hp : p.length ≤ 1000000000) (hb : begP p T = false) :
  Calls Tryz.prog 82 #[.pointer (some ⟨g, 0, none⟩), tv p] w fun e w' => e = gaveUp8 180 ∧ Keeps [g] w w' := by
 have HC := Lib.hid (has8_is g T p w h hT hp)
 have HM := Lib.hid (must8_no 180)
 rw [hb, behP_no hb] at HC
 clear hT hp h hb
 unfold tv at *
 go_enter Tryz.func82, Tryz.ntmps82
 go_wp2_with fail
 refine HC.out.mono ?_
 rintro e w1 ⟨rfl, hr, hk⟩
 have HK := Lib.hid hk
 clear hk hr
 go_wp2_with fail
 refine (HM.out _).mono ?_
 rintro e w2 ⟨rfl, rfl⟩
 go_wp2_with fail
 exact ⟨rfl, rfl, HK.out⟩
theorem next8_yes (g : Nat) (T : Txt) (n : Nat) (w : World) (h : RstAt w g T) (hn : n ≤ T.length) :
  Calls Tryz.prog 205 #[.pointer (some ⟨g, 0, none⟩), .int .i64 (n : Int)] w fun e w' => e = .returned (tv (T.take n)) ∧ RstAt w' g (T.drop n) ∧ Keeps [g] w w' := by
 have HR := Lib.hid h
 obtain ⟨c0, f0⟩ := h.cells
 have HM := Lib.hid (must8_yes 180)
 have hto := rst_to8 T n hn
 have hfr := rst_from8 T n hn
 have HR2 := Lib.hid (h.set (T.drop n))
 have HK2 : Hid (Keeps [g] w (w.setCell ⟨g, 0, none⟩ (.string ⟨(T.drop n).toArray⟩))) := (Keeps.refl [g] w).setCell (.inl (by simp)) _
 obtain ⟨m, hm⟩ : ∃ n, T.length = n := ⟨_, rfl⟩
 have hpz : (⟨T.toArray⟩ : ByteArray).size = m := hm
 have hle : (n : Int) ≤ (m : Int) := by omega
 clear hn hm h
 generalize T.drop n = u at hfr HR2 HK2 ⊢
 generalize T.take n = x at hto ⊢
 unfold tv
 go_enter Tryz.func205, Tryz.ntmps205
 go_wp2_with fail
 refine (HM.out _).mono ?_
 rintro e w2 ⟨rfl, rfl⟩
 go_wp2_with fail
 go_ret
 exact ⟨rfl, HR2.out, HK2.out⟩
theorem next8_no (g : Nat) (T : Txt) (n : Nat) (w : World) (h : RstAt w g T) (hn : T.length < n) :
  Calls Tryz.prog 205 #[.pointer (some ⟨g, 0, none⟩), .int .i64 (n : Int)] w fun e w' => e = gaveUp8 180 ∧ Keeps [g] w w' := by
 obtain ⟨c0, f0⟩ := h.cells
 have HM := Lib.hid (must8_no 180)
 obtain ⟨m, hm⟩ : ∃ n, T.length = n := ⟨_, rfl⟩
 have hpz : (⟨T.toArray⟩ : ByteArray).size = m := hm
 have hle : ¬ (n : Int) ≤ (m : Int) := by omega
 clear hn hm h
 go_enter Tryz.func205, Tryz.ntmps205
 go_wp2_with fail
 refine (HM.out _).mono ?_
 rintro e w2 ⟨rfl, rfl⟩
 go_wp2_with fail
 exact ⟨rfl, rfl, Keeps.refl _ _⟩
end Go.Proofs.YtbfebljahjmjfaaGreatDoor
/- filter: strings.IndexAny of the bytes "()*" and of one byte, in any text; by the shelf, and walked where the shelf has none. -/
namespace Go.Proofs.YtbfebljahjmjfaaGreatDoor
open Go.RowKit Go.Shelf
set_option linter.unusedVariables false
set_option linter.unusedSimpArgs false
set_option maxRecDepth 100000

def any_ren : Go.Shelf.Ren := ⟨fun | 119 => 297 | 137 => 296 | 152 => 260 | 153 => 204 | 217 => 323 | 224 => 298 | 225 => 299 | 226 => 261 | 227 => 262 | 228 => 263 | 266 => 344 | n => n, fun | 0 => 0 | 3 => 3 | 4 => 4 | 5 => 5 | 9 => 9 | 21 => 21 | 46 => 213 | 116 => 281 | 117 => 282 | 124 => 319 | n => n, fun  | n => n⟩
theorem any_lays : Lays.n153 Tryz.prog any_ren where
 mixed := by kernel_rfl
 f119 := Tryz.func297.trans (congrArg some (by kernel_rfl))
 f137 := Tryz.func296.trans (congrArg some (by kernel_rfl))
 f152 := Tryz.func260.trans (congrArg some (by kernel_rfl))
 f153 := Tryz.func204.trans (congrArg some (by kernel_rfl))
 f217 := Tryz.func323.trans (congrArg some (by kernel_rfl))
 f224 := Tryz.func298.trans (congrArg some (by kernel_rfl))
 f225 := Tryz.func299.trans (congrArg some (by kernel_rfl))
 f226 := Tryz.func261.trans (congrArg some (by kernel_rfl))
 f227 := Tryz.func262.trans (congrArg some (by kernel_rfl))
 f228 := Tryz.func263.trans (congrArg some (by kernel_rfl))
 f266 := Tryz.func344.trans (congrArg some (by kernel_rfl))
 t0 := Tryz.underlying0
 a0 := Tryz.isAgg0
 z0 := Tryz.sizeOf0
 v0 := Tryz.zeroValue0
 t3 := Tryz.underlying3
 a3 := Tryz.isAgg3
 z3 := Tryz.sizeOf3
 v3 := Tryz.zeroValue3
 t4 := Tryz.underlying4
 a4 := Tryz.isAgg4
 z4 := Tryz.sizeOf4
 v4 := Tryz.zeroValue4
 t5 := Tryz.underlying5
 a5 := Tryz.isAgg5
 z5 := Tryz.sizeOf5
 v5 := Tryz.zeroValue5
 t9 := Tryz.underlying9
 a9 := Tryz.isAgg9
 z9 := Tryz.sizeOf9
 v9 := Tryz.zeroValue9
 t21 := Tryz.underlying21
 a21 := Tryz.isAgg21
 z21 := Tryz.sizeOf21
 v21 := Tryz.zeroValue21
 t46 := Tryz.underlying213
 a46 := Tryz.isAgg213
 z46 := Tryz.sizeOf213
 v46 := Tryz.zeroValue213
 t116 := Tryz.underlying281
 a116 := Tryz.isAgg281
 z116 := Tryz.sizeOf281
 t117 := Tryz.underlying282
 a117 := Tryz.isAgg282
 z117 := Tryz.sizeOf282
 v117 := Tryz.zeroValue282
 t124 := Tryz.underlying319
 a124 := Tryz.isAgg319
 z124 := Tryz.sizeOf319
 v124 := Tryz.zeroValue319

/-- The bytes of a text that starts with a high byte, as far as the first rune goes, are high ones. -/
theorem decode_highs (l : List UInt8) (hne : l ≠ []) (h0 : 128 ≤ (l.getD 0 0).toNat) : ∀ j, j < (Lib.decodeL l).2 → 128 ≤ (l.getD j 0).toNat := by
 rw [Lib.decodeL_N]
 intro j hj
 rcases Lib.decodeN_shape l.length (l.getD 0 0).toNat (l.getD 1 0).toNat (l.getD 2 0).toNat (l.getD 3 0).toNat with ⟨c, e⟩ | ⟨c1, c2, c3, cv, e⟩ | ⟨c1, c2, c3, c4, cv, cs, e⟩ | ⟨c1, c2, c3, c4, c5, cv, cw, e⟩ | e
 ·omega
 ·rw [e] at hj
  dsimp only at hj
  rcases (by omega : j = 0 ∨ j = 1) with rfl | rfl <;> omega
 ·rw [e] at hj
  dsimp only at hj
  rcases (by omega : j = 0 ∨ j = 1 ∨ j = 2) with rfl | rfl | rfl <;> omega
 ·rw [e] at hj
  dsimp only at hj
  rcases (by omega : j = 0 ∨ j = 1 ∨ j = 2 ∨ j = 3) with rfl | rfl | rfl | rfl <;> omega
 ·rw [e] at hj
  dsimp only at hj
  obtain rfl : j = 0 := by omega
  exact h0
theorem valid8_is (r : Int) (h0 : 128 ≤ r) (h1 : r ≤ 1114111) (w : World) : Calls Tryz.prog 297 #[.int .i32 r] w fun e w' => e = .returned (.bool (Utf8.valid r)) ∧ w = w' := by
 rw [validRune_eq]
 unfold validRune
 by_cases ha : r < 55296
 ·rw [decide_eq_true (.inl ⟨by omega, ha⟩)]
  have hz : (0 : Int) ≤ r := by omega
  go_enter Tryz.func297, Tryz.ntmps297
  go_wp2_with fail
  go_ret
  exact ⟨rfl, rfl⟩
 ·by_cases hb : 57343 < r
  ·rw [decide_eq_true (.inr ⟨hb, h1⟩)]
   have hz : (0 : Int) ≤ r := by omega
   go_enter Tryz.func297, Tryz.ntmps297
   go_wp2_with fail
   go_ret
   exact ⟨rfl, rfl⟩
  ·rw [decide_eq_false (by omega)]
   have hz : (0 : Int) ≤ r := by omega
   go_enter Tryz.func297, Tryz.ntmps297
   go_wp2_with fail
   go_ret
   exact ⟨rfl, rfl⟩
theorem idxb_none (s : ByteArray) (c : UInt8) (hs : Lib.indexByte s.data.toList c = -1) (w : World) :
  Calls Tryz.prog 296 #[.string s, .int .u8 (c.toNat : Int)] w fun e w' => e = .returned (.int .i64 (-1)) ∧ w' = w := by
 refine (Any.strings_IndexByte { any_lays with } s (c.toNat : Int) w).mono ?_
 rintro e w' ⟨rfl, rfl⟩
 rw [show ((c.toNat : Int)).toNat.toUInt8 = c from by simp, hs]
 exact ⟨rfl, rfl⟩
set_option maxHeartbeats 8000000 in
theorem irune_err (w : World) : Calls Tryz.prog 260 #[.string ⟨#[40, 41, 42]⟩, .int .i32 65533] w fun e w' => e = .returned (.int .i64 (-1)) ∧ Keeps [] w w' := by
 have HK : Hid (∀ j, Keeps [] w (w.iter ⟨#[40, 41, 42]⟩ j)) := fun j => (Keeps.refl [] w).alloc _
 go_enter Tryz.func260, Tryz.ntmps260
 go_wp2_with fail
 go_loopw [5, 6] (fun _ _ wr => ∃ j : Nat, j ≤ 3 ∧ wr = w.iter ⟨#[40, 41, 42]⟩ j) (fun _ _ wr => 3 - wr.iterPos w.heap.size)
 case atStart => exact ⟨0, by omega, rfl⟩
 case round =>
  obtain ⟨j, hj, rfl⟩ := hrel
  by_cases h3 : j = 3
  ·subst h3
   have hnx := run_next_end (P := Tryz.prog) w ⟨#[40, 41, 42]⟩ 3
   go_wp2_with fail
   go_ret
   exact ⟨rfl, HK.out 3⟩
  ·rcases (by omega : j = 0 ∨ j = 1 ∨ j = 2) with rfl | rfl | rfl
   ·have hnx : ∀ ty, (Instr.next (.pointer (some ⟨w.heap.size, 0, none⟩)) true ty).run Tryz.prog (w.iter ⟨#[40, 41, 42]⟩ 0) = .ok (.tuple #[.bool true, .int .i64 0, .int .i32 40]) (w.iter ⟨#[40, 41, 42]⟩ 1) := fun ty => run_next_ascii w _ 0 ty (by decide) (by decide)
    go_wp2_with fail
    go_roundw
    case rel => exact ⟨1, by omega, rfl⟩
    case measure => simp
   ·have hnx : ∀ ty, (Instr.next (.pointer (some ⟨w.heap.size, 0, none⟩)) true ty).run Tryz.prog (w.iter ⟨#[40, 41, 42]⟩ 1) = .ok (.tuple #[.bool true, .int .i64 1, .int .i32 41]) (w.iter ⟨#[40, 41, 42]⟩ 2) := fun ty => run_next_ascii w _ 1 ty (by decide) (by decide)
    go_wp2_with fail
    go_roundw
    case rel => exact ⟨2, by omega, rfl⟩
    case measure => simp
   ·have hnx : ∀ ty, (Instr.next (.pointer (some ⟨w.heap.size, 0, none⟩)) true ty).run Tryz.prog (w.iter ⟨#[40, 41, 42]⟩ 2) = .ok (.tuple #[.bool true, .int .i64 2, .int .i32 42]) (w.iter ⟨#[40, 41, 42]⟩ 3) := fun ty => run_next_ascii w _ 2 ty (by decide) (by decide)
    go_wp2_with fail
    go_roundw
    case rel => exact ⟨3, by omega, rfl⟩
    case measure => simp
theorem three_ways {E : ByteArray} (h2 : 2 ≤ E.size) (h4 : E.size ≤ 4) (hl : ∀ h : E.size - 1 < E.size, 128 ≤ (E[E.size - 1]'h).toNat) :
  (∃ a b : UInt8, E = ⟨#[a, b]⟩ ∧ 128 ≤ b.toNat) ∨ (∃ a b c : UInt8, E = ⟨#[a, b, c]⟩ ∧ 128 ≤ c.toNat) ∨ (∃ a b c d : UInt8, E = ⟨#[a, b, c, d]⟩) := by
 obtain ⟨⟨l⟩⟩ := E
 have e1 : (⟨⟨l⟩⟩ : ByteArray).size = l.length := rfl
 rw [e1] at h2 h4
 match l, h2, h4, hl with
 | [a, b], _, _, hl => exact .inl ⟨a, b, rfl, hl (by show 1 < 2; omega)⟩
 | [a, b, c], _, _, hl => exact .inr (.inl ⟨a, b, c, rfl, hl (by show 2 < 3; omega)⟩)
 | [a, b, c, d], _, _, _ => exact .inr (.inr ⟨a, b, c, d, rfl⟩)
 | [], h, _, _ => simp at h
 | [_], h, _, _ => simp at h
 | _ :: _ :: _ :: _ :: _ :: _, _, h, _ => simp at h
set_option maxHeartbeats 8000000 in
theorem irune_high (r : Int) (h0 : 128 ≤ r) (h1 : r ≤ 1114111) (w : World) : Calls Tryz.prog 260 #[.string ⟨#[40, 41, 42]⟩, .int .i32 r] w fun e w' => e = .returned (.int .i64 (-1)) ∧ Keeps [] w w' := by
 by_cases he : r = 65533
 ·rw [he]
  exact irune_err w
 ·have HV := Lib.hid (valid8_is r h0 h1)
  have hz : (0 : Int) ≤ r := by omega
  have hlt : ¬ r < 128 := by omega
  cases hv : Utf8.valid r with
  | false =>
   rw [hv] at HV
   clear hv
   go_enter Tryz.func260, Tryz.ntmps260
   go_wp2_with fail
   refine (HV.out _).mono ?_
   rintro e w1 ⟨rfl, rfl⟩
   go_wp2_with fail
   go_ret
   exact ⟨rfl, Keeps.refl _ _⟩
  | true =>
   rw [hv] at HV
   have hE := encode_facts r hv h0
   have hcv : ∀ W : World, (convert 21 9 (.int .i32 r)).run Tryz.prog W = .ok (.string (Utf8.encode r)) W := fun W => run_convert_int_string W _ _ _ _ (by kernel_rfl) (by kernel_rfl)
   generalize Utf8.encode r = E at hE hcv
   have HC := Lib.hid hcv
   clear hcv hv
   rcases three_ways hE.1 hE.2.1 hE.2.2 with ⟨a, b, rfl, hb⟩ | ⟨a, b, c, rfl, hb⟩ | ⟨a, b, c, d, rfl⟩
   ·have h9 : ((42 : UInt8) == b) = false := by
     rw [beq_eq_false_iff_ne]
     rintro rfl
     revert hb
     decide
    have HI := Lib.hid (idxb_none ⟨#[42]⟩ b (by simp [Lib.indexByte, h9]))
    have hne : ¬ ((41 : Int) = (b.toNat : Int)) := by omega
    have hsl : ∀ W, (Instr.slice 9 (.string ⟨#[40, 41, 42]⟩) (some (.int .i64 2)) none none).run Tryz.prog W = .ok (.string ⟨#[42]⟩) W := fun W => str_from8 [40, 41, 42] 2 (by decide) W
    clear hE h9
    have hcv := HC.out
    go_enter Tryz.func260, Tryz.ntmps260
    go_wp2_with fail
    refine (HV.out _).mono ?_
    rintro e w1 ⟨rfl, rfl⟩
    go_wp2_with fail
    refine wp_scope_once 1 rfl ?_
    go_wp2_with fail
    go_loopw [9, 10, 11, 12] (fun i f _ _ wr => i = .int .i64 1 ∧ f = .int .i64 0 ∧ wr = w) (fun _ _ _ _ _ => 0)
    case atStart => exact ⟨rfl, rfl, rfl⟩
    case round =>
     obtain ⟨rfl, rfl, rfl⟩ := hrel
     go_wp2_with fail
     refine wp_scope_once 0 rfl ?_
     go_wp2_with fail
     go_still (by kernel_rfl)
     rw [show ((((({ data := #[40, 41, 42] } : ByteArray)[1]'(by decide)).toNat : Nat) : Int) != (((({ data := #[a, b] } : ByteArray)[1]'(by show 1 < 2; omega)).toNat : Nat) : Int)) = true from bne_iff_ne.2 (by show (41 : Int) ≠ (b.toNat : Int); omega)]
     go_wp2_with fail
     go_still_tail 7, (by kernel_rfl)
     refine wpStill_step (fun K hK => ?_)
     go_simp
     rw [show IntKind.i64.wrap 2 = 2 from by decide, if_pos (by decide)]
     rw [show ({ data := #[40, 41, 42] } : ByteArray).extract ((2 : Int)).toNat 3 = ⟨#[42]⟩ from rfl]
     refine ⟨rfl, hK _ ?_⟩
     clear hK K
     repeat still_step
     refine wpStill_nil ?_
     change wpList _ _ _ _ _ wr.drew.drew
     go_wp2_with fail
     refine (HI.out _).mono ?_
     rintro e w1 ⟨rfl, rfl⟩
     go_wp2_with fail
     dsimp only [Exit.jump, Exit.then]
     try go_wp2_with fail
     try dsimp only [Exit.jump, Exit.then]
     try go_wp2_with fail
     try dsimp only [Exit.jump, Exit.then]
     go_ret
     exact ⟨rfl, (Keeps.refl _ _).drew.drew⟩
   ·have h9 : ((42 : UInt8) == c) = false := by
     rw [beq_eq_false_iff_ne]
     rintro rfl
     revert hb
     decide
    have HI := Lib.hid (idxb_none ⟨#[]⟩ c (by simp [Lib.indexByte]))
    have hne : ¬ ((42 : Int) = (c.toNat : Int)) := by omega
    have hsl : ∀ W, (Instr.slice 9 (.string ⟨#[40, 41, 42]⟩) (some (.int .i64 3)) none none).run Tryz.prog W = .ok (.string ⟨#[]⟩) W := fun W => str_from8 [40, 41, 42] 3 (by decide) W
    clear hE h9
    have hcv := HC.out
    go_enter Tryz.func260, Tryz.ntmps260
    go_wp2_with fail
    refine (HV.out _).mono ?_
    rintro e w1 ⟨rfl, rfl⟩
    go_wp2_with fail
    refine wp_scope_once 1 rfl ?_
    go_wp2_with fail
    go_loopw [9, 10, 11, 12] (fun i f _ _ wr => i = .int .i64 2 ∧ f = .int .i64 0 ∧ wr = w) (fun _ _ _ _ _ => 0)
    case atStart => exact ⟨rfl, rfl, rfl⟩
    case round =>
     obtain ⟨rfl, rfl, rfl⟩ := hrel
     go_wp2_with fail
     refine wp_scope_once 0 rfl ?_
     go_wp2_with fail
     go_still (by kernel_rfl)
     rw [show ((((({ data := #[40, 41, 42] } : ByteArray)[2]'(by decide)).toNat : Nat) : Int) != (((({ data := #[a, b, c] } : ByteArray)[2]'(by show 2 < 3; omega)).toNat : Nat) : Int)) = true from bne_iff_ne.2 (by show (42 : Int) ≠ (c.toNat : Int); omega)]
     go_wp2_with fail
     go_still_tail 7, (by kernel_rfl)
     refine wpStill_step (fun K hK => ?_)
     go_simp
     rw [show IntKind.i64.wrap 3 = 3 from by decide, if_pos (by decide)]
     rw [show ({ data := #[40, 41, 42] } : ByteArray).extract ((3 : Int)).toNat 3 = ⟨#[]⟩ from rfl]
     refine ⟨rfl, hK _ ?_⟩
     clear hK K
     repeat still_step
     refine wpStill_nil ?_
     change wpList _ _ _ _ _ wr.drew.drew
     go_wp2_with fail
     refine (HI.out _).mono ?_
     rintro e w1 ⟨rfl, rfl⟩
     go_wp2_with fail
     dsimp only [Exit.jump, Exit.then]
     try go_wp2_with fail
     try dsimp only [Exit.jump, Exit.then]
     try go_wp2_with fail
     try dsimp only [Exit.jump, Exit.then]
     go_ret
     exact ⟨rfl, (Keeps.refl _ _).drew.drew⟩
   ·clear hE
    have hcv := HC.out
    go_enter Tryz.func260, Tryz.ntmps260
    go_wp2_with fail
    refine (HV.out _).mono ?_
    rintro e w1 ⟨rfl, rfl⟩
    go_wp2_with fail
    refine wp_scope_once 1 rfl ?_
    go_wp2_with fail
    go_loopw [9, 10, 11, 12] (fun i f _ _ wr => i = .int .i64 3 ∧ f = .int .i64 0 ∧ wr = w) (fun _ _ _ _ _ => 0)
    case atStart => exact ⟨rfl, rfl, rfl⟩
    case round =>
     obtain ⟨rfl, rfl, rfl⟩ := hrel
     go_wp2_with fail
     dsimp only [Exit.jump, Exit.then]
     try go_wp2_with fail
     try dsimp only [Exit.jump, Exit.then]
     try go_wp2_with fail
     try dsimp only [Exit.jump, Exit.then]
     go_ret
     exact ⟨rfl, Keeps.refl _ _⟩
end Go.Proofs.YtbfebljahjmjfaaGreatDoor
/- filter: strings.IndexAny of the bytes "()*" and of one byte, in any text; walked. -/
namespace Go.Proofs.YtbfebljahjmjfaaGreatDoor
open Go.RowKit Go.Shelf
set_option linter.unusedVariables false
set_option linter.unusedSimpArgs false
set_option maxRecDepth 100000

theorem high_not {b : UInt8} (h : 128 ≤ b.toNat) : ([40, 41, 42] : Txt).contains b = false := by
 rw [List.contains_eq_any_beq]
 simp only [List.any_cons, List.any_nil, Bool.or_false, Bool.or_eq_false_iff, beq_eq_false_iff_ne]
 refine ⟨?_, ?_, ?_⟩ <;> (rintro rfl; revert h; decide)
theorem data8 (T : Txt) : (⟨T.toArray⟩ : ByteArray).data.toList = T := by simp
/-- What a step over a rune of high bytes is. -/
theorem high_step (T : Txt) (i : Nat) (x : UInt8) (hx : T[i]? = some x) (hx8 : 128 ≤ x.toNat) (hno : Lib.NoAny T [40, 41, 42] i) :
  ∃ r d : Nat, Utf8.decode ⟨T.toArray⟩ i = (r, d) ∧ 128 ≤ r ∧ r ≤ 1114111 ∧ 1 ≤ d ∧ i + d ≤ T.length ∧ Lib.NoAny T [40, 41, 42] (i + d) := by
 have hi : i < T.length := (List.getElem?_eq_some_iff.1 hx).1
 have hd := Lib.decodeL_drop ⟨T.toArray⟩ i
 rw [data8] at hd
 have hne : T.drop i ≠ [] := by
  intro e
  have := congrArg List.length e
  rw [List.length_drop, List.length_nil] at this
  omega
 have h0 : (T.drop i).getD 0 0 = x := by rw [List.getD_eq_getElem?_getD, List.getElem?_drop, Nat.add_zero, hx]; rfl
 have h1 := decode_highs (T.drop i) hne (by rw [h0]; exact hx8)
 have h2 := Lib.decodeL_le (T.drop i) hne
 have h3 := Lib.decodeL_width (T.drop i)
 have h4 := Lib.decodeL_rune (T.drop i)
 have h5 := decode_high ⟨T.toArray⟩ i hi (by
  have : (⟨T.toArray⟩ : ByteArray)[i]'hi = x := by
   show T.toArray[i]'hi = x
   rw [List.getElem_toArray]
   exact (List.getElem?_eq_some_iff.1 hx).2
  rw [this]
  exact hx8)
 rw [hd] at h1 h2 h3 h4
 rw [List.length_drop] at h2
 refine ⟨(Utf8.decode ⟨T.toArray⟩ i).1, (Utf8.decode ⟨T.toArray⟩ i).2, rfl, h5.1, h4, h3, by omega, fun j b hj hb => ?_⟩
 by_cases hji : j < i
 ·exact hno j b hji hb
 ·have h6 := h1 (j - i) (by omega)
  rw [List.getD_eq_getElem?_getD, List.getElem?_drop, show i + (j - i) = j by omega, hb] at h6
  exact high_not h6
theorem Keeps.iterAt8 {w X : World} (h : Keeps [] w X) (s : ByteArray) (p : Nat) : Keeps [] w (X.iterAt w.heap.size s p) :=
 ⟨h.os, h.tape, h.output, by rw [Lib.iterAt_size]; exact h.size, fun b hb hn => (Lib.iterAt_other X w.heap.size b s p (by omega)).trans (h.block b hb hn)⟩
set_option maxHeartbeats 8000000 in
theorem iany_short (T : Txt) (w : World) (hT : T.length ≤ 8) :
  Calls Tryz.prog 204 #[tv T, .string ⟨#[40, 41, 42]⟩] w fun e w' => e = .returned (.int .i64 (Lib.indexAny T [40, 41, 42])) ∧ Keeps [] w w' := by
 obtain ⟨n, hn⟩ : ∃ n, T.length = n := ⟨_, rfl⟩
 have HN := Lib.hid hn
 have hsz : (⟨T.toArray⟩ : ByteArray).size = n := hn
 have HSU : Hid (∀ W, Calls Tryz.prog 261 #[.int .i64 (n : Int)] W fun e w' => e = .returned (.bool false) ∧ W = w') := fun W => by
  refine (Any.strings_shouldUseASCIISet { any_lays with } (n : Int) W).mono ?_
  rintro e w' ⟨rfl, rfl⟩
  exact ⟨by rw [decide_eq_false (by omega)], rfl⟩
 have HIA : Hid (∀ (x : UInt8) W, x.toNat < 128 → Calls Tryz.prog 260 #[.string ⟨#[40, 41, 42]⟩, .int .i32 (x.toNat : Int)] W fun e w' => e = .returned (.int .i64 (Lib.indexByte [40, 41, 42] x)) ∧ W = w') := fun x W hx => by
  refine (Any.strings_IndexRune_ascii { any_lays with } ⟨#[40, 41, 42]⟩ (x.toNat : Int) W (by omega) (by omega)).mono ?_
  rintro e w' ⟨rfl, rfl⟩
  exact ⟨by rw [show ((x.toNat : Int)).toNat.toUInt8 = x from by simp], rfl⟩
 obtain ⟨k, hk⟩ : ∃ k, w.heap.size = k := ⟨_, rfl⟩
 have HKK := Lib.hid hk
 have HST : Hid ((w.iter ⟨T.toArray⟩ 0).heap[k]? = some (.stringIter ⟨T.toArray⟩ 0) ∧ Keeps [] w (w.iter ⟨T.toArray⟩ 0)) := ⟨by rw [← hk]; exact World.iter_heap w _ _, (Keeps.refl [] w).alloc _⟩
 clear hn hT
 unfold tv
 go_enter Tryz.func204, Tryz.ntmps204
 go_wp2_with fail
 refine (HSU.out _).mono ?_
 rintro e w1 ⟨rfl, rfl⟩
 go_wp2_with fail
 try rw [hk]
 go_loopw [9, 10] (fun _ _ wx => ∃ i : Nat, i ≤ n ∧ Hid (wx.heap[k]? = some (.stringIter ⟨T.toArray⟩ i)) ∧ Hid (Lib.NoAny T [40, 41, 42] i) ∧ Hid (Keeps [] w wx)) (fun _ _ wx => n - wx.iterPos k)
 case atStart => exact ⟨0, by omega, HST.out.1, Lib.NoAny.zero _ _, HST.out.2⟩
 case round =>
  obtain ⟨i, hi, HI, HNO, HK⟩ := hrel
  have hip : wr.iterPos k = i := by unfold World.iterPos; rw [HI.out]
  by_cases hlt : i < n
  ·obtain ⟨x, hx⟩ : ∃ x, T[i]? = some x := ⟨_, List.getElem?_eq_getElem (by rw [HN.out]; exact hlt)⟩
   have HX := Lib.hid hx
   by_cases h8 : x.toNat < 128
   ·have hgx : (⟨T.toArray⟩ : ByteArray)[i]'(by rw [hsz]; exact hlt) = x := by
     show T.toArray[i]'_ = x
     rw [List.getElem_toArray]
     exact (List.getElem?_eq_some_iff.1 hx).2
    have hnx := fun ty => Lib.run_next_ascii_at (P := Tryz.prog) wr k ⟨T.toArray⟩ i ty HI.out (by rw [hsz]; exact hlt) (by rw [hgx]; exact h8)
    rw [hgx] at hnx
    have HB := Lib.hid (HIA.out x (wr.iterAt k ⟨T.toArray⟩ (i + 1)) h8)
    have HI2 : Hid ((wr.iterAt k ⟨T.toArray⟩ (i + 1)).heap[k]? = some (.stringIter ⟨T.toArray⟩ (i + 1))) := Lib.iterAt_heap _ _ _ _ _ HI.out
    have HK2 : Hid (Keeps [] w (wr.iterAt k ⟨T.toArray⟩ (i + 1))) := by have := HK.out.iterAt8 ⟨T.toArray⟩ (i + 1); rw [HKK.out] at this; exact this
    have hcon := Lib.contains_iff_indexByte [40, 41, 42] x
    obtain ⟨z, hz⟩ : ∃ z, Lib.indexByte [40, 41, 42] x = z := ⟨_, rfl⟩
    rw [hz] at hcon HB
    clear hz hgx hx
    cases hin : ([40, 41, 42] : Txt).contains x
    ·rw [hin] at hcon
     have hge : ¬ ((0 : Int) ≤ z) := of_decide_eq_false hcon.symm
     have HNX := Lib.hid (HNO.out.succ HX.out hin)
     clear hcon hin
     go_wp2_with fail
     refine HB.out.mono ?_
     rintro e w1 ⟨rfl, rfl⟩
     go_wp2_with fail
     go_roundw
     case rel => exact ⟨i + 1, hlt, HI2, HNX, HK2⟩
     case measure =>
      have : (wr.iterAt k ⟨T.toArray⟩ (i + 1)).iterPos k = i + 1 := by unfold World.iterPos; rw [HI2.out]
      omega
    ·rw [hin] at hcon
     have hge : (0 : Int) ≤ z := of_decide_eq_true hcon.symm
     have HE := Lib.hid (Lib.indexAny_hit HNO.out HX.out hin)
     clear hcon hin
     go_wp2_with fail
     refine HB.out.mono ?_
     rintro e w1 ⟨rfl, rfl⟩
     go_wp2_with fail
     go_ret
     exact ⟨by rw [HE.out]; rfl, HK2.out⟩
   ·obtain ⟨r, d, hd, hr0, hr1, hd1, hdn, hno2⟩ := high_step T i x hx (by omega) HNO.out
    have hnx := fun ty => Lib.run_next_any_at (P := Tryz.prog) wr k ⟨T.toArray⟩ i ty HI.out (by rw [hsz]; exact hlt)
    rw [hd] at hnx
    dsimp only at hnx
    have HB := Lib.hid (irune_high (r : Int) (by omega) (by omega) (wr.iterAt k ⟨T.toArray⟩ (i + d)))
    have HI2 : Hid ((wr.iterAt k ⟨T.toArray⟩ (i + d)).heap[k]? = some (.stringIter ⟨T.toArray⟩ (i + d))) := Lib.iterAt_heap _ _ _ _ _ HI.out
    have HK2 : Hid (Keeps [] w (wr.iterAt k ⟨T.toArray⟩ (i + d))) := by have := HK.out.iterAt8 ⟨T.toArray⟩ (i + d); rw [HKK.out] at this; exact this
    have HNX := Lib.hid hno2
    have hdn2 : i + d ≤ n := by rw [← HN.out]; exact hdn
    clear hd hno2 hx hdn
    go_wp2_with fail
    refine HB.out.mono ?_
    rintro e w1 ⟨rfl, hk1⟩
    have HI3 : Hid (w1.heap[k]? = some (.stringIter ⟨T.toArray⟩ (i + d))) := (hk1.block k ((Array.getElem?_eq_some_iff.1 HI2.out).1) (by simp)).trans HI2.out
    have HK3 := Lib.hid (HK2.out.trans' hk1)
    clear hk1
    go_wp2_with fail
    go_roundw
    case rel => exact ⟨i + d, hdn2, HI3, HNX, HK3⟩
    case measure =>
     have : w1.iterPos k = i + d := by unfold World.iterPos; rw [HI3.out]
     omega
  ·obtain rfl : i = n := by omega
   have hnx := Lib.run_next_end_at (P := Tryz.prog) wr k ⟨T.toArray⟩ i
   have hnx := fun ty => hnx ty HI.out (by rw [hsz]; omega)
   have HE := Lib.hid (Lib.indexAny_none (s := T) (chars := [40, 41, 42]) (by rw [HN.out]; exact HNO.out))
   go_wp2_with fail
   go_ret
   exact ⟨by rw [HE.out]; rfl, HK.out⟩
theorem iany_is (T : Txt) (w : World) (hT : T.length ≤ 1000000000) :
  Calls Tryz.prog 204 #[tv T, .string ⟨#[40, 41, 42]⟩] w fun e w' => e = .returned (.int .i64 (Lib.indexAny T [40, 41, 42])) ∧ Keeps [] w w' := by
 by_cases h8 : T.length ≤ 8
 ·exact iany_short T w h8
 ·have hs : (⟨T.toArray⟩ : ByteArray).size = T.length := rfl
  have h := Any.strings_IndexAny_long { any_lays with } Tryz.zeroValue281 (by kernel_rfl) ⟨T.toArray⟩ ⟨#[40, 41, 42]⟩ w (by decide) (by rw [hs]; omega) (by rw [hs]; omega) (by decide) (by
   intro j b hb
   match j, hb with
   | 0, hb => cases hb; decide
   | 1, hb => cases hb; decide
   | 2, hb => cases hb; decide
   | j + 3, hb => simp at hb)
  refine h.mono ?_
  rintro e w' ⟨rfl, rfl⟩
  rw [data8]
  exact ⟨rfl, ((Keeps.refl [] w).alloc _).trans' ((Keeps.refl [] _).alloc _)⟩
theorem iany_one (T : Txt) (w : World) :
  Calls Tryz.prog 204 #[tv T, .string ⟨#[61]⟩] w fun e w' => e = .returned (.int .i64 (Lib.indexAny T [61])) ∧ Keeps [] w w' := by
 refine (Any.strings_IndexAny_one { any_lays with } ⟨T.toArray⟩ ⟨#[61]⟩ w (by decide) (by
   intro j b hb
   match j, hb with
   | 0, hb => cases hb; decide
   | j + 1, hb => simp at hb)).mono ?_
 rintro e w' ⟨rfl, rfl⟩
 rw [data8]
 exact ⟨rfl, Keeps.refl _ _⟩
end Go.Proofs.YtbfebljahjmjfaaGreatDoor
