/- Texts of one proof, laid together: U14 U15 U16 U18. -/
import Derived.Test.YthgpjlmdllihmaaGreatM14
import Derived.Test.YthgpjlmdllihmaaGreatM12
import Derived.Test.YthgpjlmdllihmaaGreatM08
import Derived.Test.YthgpjlmdllihmaaGreatM17
import Derived.Test.YthgpjlmdllihmaaGreatM18
/- Small functions of the store: areaSize, isLater, hasRoom, missing. -/
namespace Go.Proofs.YthgpjlmdllihmaaGreat
open Go.RowKit Go.Maps
set_option linter.unusedVariables false
set_option linter.unusedSimpArgs false
set_option maxRecDepth 100000

theorem size_disk (k : Dk) (w : World) (h : DiskAt w k) : Calls Tryz.prog 21 #[.pointer (some ⟨k.p, 0, none⟩)] w fun e w' => e = .returned (.int .i64 (k.S.length : Nat)) ∧ w = w' := by
  have hp := h.pos
  have hb := h.big
  exact size_any _ _ _ _ _ h.c0 (by omega) (by omega)

theorem areasize_is (k : Dk) (w : World) (h : DiskAt w k) : Calls Tryz.prog 41 #[.pointer (some ⟨k.p, 0, none⟩)] w fun e w' => e = .returned (.int .i64 ((k.S.length / 2 : Nat) : Int)) ∧ w = w' := by
  have hb := h.big
  have HS := Lib.hid (size_disk k w h)
  have hd : ((k.S.length : Nat) : Int).tdiv 2 = ((k.S.length / 2 : Nat) : Int) := rfl
  clear h
  go_enter Tryz.func41, Tryz.ntmps41
  go_wp2_with (go_at_call 21; refine HS.out.mono ?_; rintro e w' ⟨rfl, rfl⟩)
  go_ret
  exact ⟨by simp, rfl⟩

theorem hasroom_is (m : Option Nat) (T : Tab) (k : Dk) (w : World) (h : TabV w m T) (hT : tweight T ≤ 1000000000) (hd : DiskAt w k) : Calls Tryz.prog 26 #[.map m, .pointer (some ⟨k.p, 0, none⟩)] w fun e w' => e = .returned (.bool (decide (tweight T + 64 ≤ k.S.length / 2))) ∧ Keeps [] w w' := by
  have HW := Lib.hid (weight_any m T w h hT)
  have HA := Lib.hid (fun w1 (hk : Keeps [] w w1) => areasize_is k w1 (hd.grow hk))
  have hb := hd.big
  clear h hd
  go_enter Tryz.func26, Tryz.ntmps26
  go_wp2_with (first
    | (go_at_call 38; refine HW.out.mono ?_; rintro e w1 ⟨rfl, hk1⟩; have HK1 := Lib.hid hk1; clear hk1)
    | (go_at_call 41; refine (HA.out _ HK1.out).mono ?_; rintro e w' ⟨rfl, rfl⟩))
  go_ret
  refine ⟨?_, HK1.out⟩
  show Ending.returned (.bool (decide ((tweight T : Int) + 64 ≤ (k.S.length : Int) / 2))) = _
  congr 2
  rw [Bool.eq_iff_iff, decide_eq_true_iff, decide_eq_true_iff]
  omega

/-- Which of two turns is later. -/
def laterT (a b : Nat) : Bool := decide (0 < (a + 4294967296 - b) % 4294967296 ∧ (a + 4294967296 - b) % 4294967296 < 2147483648)

theorem later_is (x y : Nat) (a b : Nat) (m1 m2 : Option Nat) (w : World) (ha : a < 4294967296) (hb : b < 4294967296) : Calls Tryz.prog 42 #[.agg #[.int .i64 (x : Int), .int .u32 (a : Int), .map m1], .agg #[.int .i64 (y : Int), .int .u32 (b : Int), .map m2]] w fun e w' => e = .returned (.bool (laterT a b)) ∧ Keeps [] w w' := by
  go_enter Tryz.func42, Tryz.ntmps42
  go_wp2
  go_ret
  refine ⟨?_, ((Keeps.refl [] w).alloc _).alloc _⟩
  show Ending.returned (.bool (decide (0 < wrap32 (((a : Int) - (b : Int)) % 4294967296)))) = _
  unfold laterT wrap32
  congr 2
  rw [Bool.eq_iff_iff, decide_eq_true_iff, decide_eq_true_iff]
  omega

end Go.Proofs.YthgpjlmdllihmaaGreat
/- Areas of a disk, as bytes. -/
namespace Go.Proofs.YthgpjlmdllihmaaGreat
open Go.RowKit Go.Maps
set_option linter.unusedVariables false
set_option linter.unusedSimpArgs false
set_option maxRecDepth 100000

theorem tweight_cons (p : List UInt8 × List UInt8) (T : Tab) : tweight (p :: T) = 16 + p.1.length + p.2.length + tweight T := by simp [tweight]
theorem tweight_tins (x : List UInt8 × List UInt8) : ∀ T : Tab, tweight (tins x T) = tweight T + (16 + x.1.length + x.2.length)
  | [] => by simp [tins, tweight]
  | y :: r => by
    unfold tins
    split
    · rw [tweight_cons]; omega
    · rw [tweight_cons, tweight_cons, tweight_tins x r]; omega
theorem tweight_tdel (T : Tab) (k : List UInt8) : tweight (tdel T k) ≤ tweight T := by
  unfold tdel
  induction T with
  | nil => simp
  | cons y r ih =>
    rw [List.filter_cons]
    split
    · rw [tweight_cons, tweight_cons]; omega
    · rw [tweight_cons]; omega
theorem tweight_tput (T : Tab) (k v : List UInt8) : tweight (tput T k v) ≤ tweight T + (16 + k.length + v.length) := by
  unfold tput
  rw [tweight_tins]
  have := tweight_tdel T k
  show tweight (tdel T k) + (16 + k.length + v.length) ≤ _
  omega

theorem isRow_len {r : List UInt8} (h : isRow r = true) : (keyP r).length + (valP r).length + 4 = r.length := by
  simp only [isRow, Bool.and_eq_true, decide_eq_true_eq] at h
  obtain ⟨h1, h2, _⟩ := h
  unfold keyP valP
  simp only [List.length_take, List.length_drop]
  omega

theorem rowsGo_weight {mv : Nat} : ∀ (l : List (List UInt8)) (T S : Tab), rowsGo mv l T = some S → tweight S ≤ tweight T + offs l
  | [], T, S, h => by
    simp only [rowsGo, Option.some.injEq] at h
    subst h
    simp
  | r :: rs, T, S, h => by
    simp only [rowsGo] at h
    split at h
    · injection h with h; subst h; omega
    · split at h
      · rename_i h2
        simp only [Bool.and_eq_true] at h2
        have h3 := rowsGo_weight rs _ S h
        have h4 := tweight_tput T (keyP r) (valP r)
        have h5 := isRow_len h2.1
        rw [offs_cons]
        omega
      · cases h
theorem rowsP_weight {mv : Nat} {xs : List UInt8} {S : Tab} (h : rowsP mv xs = some S) : tweight S ≤ xs.length := by
  have h1 := rowsGo_weight (recs xs) [] S h
  have h2 := offs_le xs (recs xs).length
  rw [List.take_length] at h2
  simp [tweight] at h1
  simp only [tweight]
  omega

/-- The turn and the rows' number in a title. -/
def turnP (xs : List UInt8) : Nat := num4 (fstR xs)
def manyP (xs : List UInt8) : Nat := num4 ((fstR xs).drop 4)
/-- A title: a record of eight bytes. -/
def isTitle (xs : List UInt8) : Bool := decide ((fstR xs).length = 8)
/-- The table that an area's bytes have, and its turn. -/
def areaP (half : Nat) (xs : List UInt8) : Option (Nat × Tab) :=
  if isTitle xs then
    if rowsOk (manyP xs) (xs.drop 20) then
      match rowsP (manyP xs) (xs.drop 20) with
      | some T => if tweight T + 64 ≤ half then some (turnP xs, T) else none
      | none => none
    else none
  else none

theorem title_framed {xs : List UInt8} (h : isTitle xs = true) : framed xs = true ∧ fstN xs = 20 ∧ 20 ≤ xs.length := by
  simp only [isTitle, decide_eq_true_eq] at h
  cases hf : framed xs
  · simp [fstR, hf] at h
  · have h1 : fstR xs = recOf xs := by simp [fstR, hf]
    have h2 : fstN xs = (recOf xs).length + 12 := by simp [fstN, hf]
    rw [h1] at h
    have := recOf_len hf
    exact ⟨rfl, by omega, by omega⟩

end Go.Proofs.YthgpjlmdllihmaaGreat
/- areaAt: an area of a disk, and whether a table lies there. -/
namespace Go.Proofs.YthgpjlmdllihmaaGreat
open Go.RowKit Go.Shelf Go.Maps
set_option linter.unusedVariables false
set_option linter.unusedSimpArgs false
set_option maxRecDepth 100000

def arIs (half : Nat) (xs : List UInt8) : Bool := (areaP half xs).isSome
def arT (half : Nat) (xs : List UInt8) : Nat := match areaP half xs with | some p => p.1 | none => 0
def arTab (half : Nat) (xs : List UInt8) : Tab := match areaP half xs with | some p => p.2 | none => []

theorem title_any (A : Option Addr) (n c : Nat) (xs : List UInt8) (w : World) (hn : xs.length = n) (hb : BytesAt w (.slice A n c) xs) (h8 : n = 8) : Calls Tryz.prog 56 #[.slice A n c] w fun e w' => e = .returned (.tuple #[.agg #[.int .u32 (num4 xs : Nat), .int .u32 (num4 (xs.drop 4) : Nat)], .bool true]) ∧ Keeps [] w w' := by
  subst h8
  exact title_yes A c xs w hn hb

/-- The area's bytes. -/
def arX (S : List UInt8) (at_ : Nat) : List UInt8 := (S.drop at_).take (S.length / 2)

theorem three_facts {w : World} {g : Nat} {a b c : Value} {t : TypeId} (h : w.heap[g]? = some (.cells #[a, b, c] t (0, 0))) :
    (w.cell? ⟨g, 0, none⟩ = some a ∧ w.cell? ⟨g, 1, none⟩ = some b ∧ w.cell? ⟨g, 2, none⟩ = some c) ∧ w.frozen? ⟨g, 0, none⟩ = false ∧ w.frozen? ⟨g, 1, none⟩ = false ∧ w.frozen? ⟨g, 2, none⟩ = false :=
  ⟨⟨cell_of_blk h 0, cell_of_blk h 1, cell_of_blk h 2⟩, free_of_blk h 0, free_of_blk h 1, free_of_blk h 2⟩

/-- The result, stored. -/
theorem area_store {w X : World} {x y z : Value} (h : X.heap[w.heap.size]? = some (.cells #[x, y, z] 62 (0, 0))) (hk : Keeps [] w X) (a b c : Value) :
    (loadVar 62 ⟨w.heap.size, 0, none⟩).run Tryz.prog (((X.setCell ⟨w.heap.size, 0, none⟩ a).setCell ⟨w.heap.size, 1, none⟩ b).setCell ⟨w.heap.size, 2, none⟩ c) = .ok (.agg #[a, b, c]) (((X.setCell ⟨w.heap.size, 0, none⟩ a).setCell ⟨w.heap.size, 1, none⟩ b).setCell ⟨w.heap.size, 2, none⟩ c) ∧
    Keeps [] w (((X.setCell ⟨w.heap.size, 0, none⟩ a).setCell ⟨w.heap.size, 1, none⟩ b).setCell ⟨w.heap.size, 2, none⟩ c) := by
  have b1 := blk_set (blk_set (blk_set h 0 a) 1 b) 2 c
  exact ⟨load_agg3 Tryz.isAgg62 Tryz.sizeOf62 (cell_of_blk b1 0) (cell_of_blk b1 1) (cell_of_blk b1 2), ((hk.setCell (p := ⟨w.heap.size, 0, none⟩) (.inr (Nat.le_refl _)) _).setCell (p := ⟨w.heap.size, 1, none⟩) (.inr (Nat.le_refl _)) _).setCell (p := ⟨w.heap.size, 2, none⟩) (.inr (Nat.le_refl _)) _⟩

theorem areaat_none (k : Dk) (at_ : Nat) (w : World) (hd : DiskAt w k) (hat : at_ + k.S.length / 2 ≤ k.S.length) (ht : isTitle (arX k.S at_) = false) :
    Calls Tryz.prog 40 #[.pointer (some ⟨k.p, 0, none⟩), .int .i64 (at_ : Int)] w fun e w' => e = .returned (.tuple #[.agg #[.int .i64 (at_ : Int), .int .u32 0, .map none], .bool false]) ∧ Keeps [] w w' := by
  have hbig := hd.big
  have hk0 : Keeps [] w (w.alloc (.cells #[.int .i64 0, .int .u32 0, .map none] 62)) := (Keeps.refl [] w).alloc _
  have b0 := heap_alloc_new w (.cells #[.int .i64 0, .int .u32 0, .map none] 62)
  have HA := Lib.hid (fun w1 (hk : Keeps [] w w1) => areasize_is k w1 (hd.grow hk))
  have HR := Lib.hid (fun w1 (hk : Keeps [] w w1) => read_dat k _ at_ (k.S.length / 2) (arX k.S at_) w1 (hd.grow hk) rfl hat rfl)
  have hxl : (arX k.S at_).length = k.S.length / 2 := by unfold arX; rw [List.length_take, List.length_drop]; omega
  have ht8 : (fstR (arX k.S at_)).length ≠ 8 := by simpa [isTitle] using ht
  have hfl : (fstR (arX k.S at_)).length ≤ 9223372036854775807 := by
    unfold fstR
    split
    · rename_i hf
      have := recOf_len hf
      omega
    · simp
  generalize arX k.S at_ = xs at *
  generalize k.S.length / 2 = hf at *
  have HX := Lib.hid hxl
  have HB0 := Lib.hid b0
  have HK0 := Lib.hid hk0
  clear hxl b0 hk0 ht hd
  go_enter Tryz.func40, Tryz.ntmps40
  go_wp2
  refine wp_scope_once 0 rfl ?_
  go_wp2_with (first
    | (go_at_call 41; refine (HA.out _ HK0.out).mono ?_; rintro e w' ⟨rfl, rfl⟩)
    | (go_at_call 54; refine (HR.out _ HK0.out).mono ?_; rintro e w2 ⟨A, c, rfl, hb2, hw2⟩; have HB2 := Lib.hid hb2; have HK2 := Lib.hid (HK0.out.trans' (Keeps.of_below hw2)); have HS2 := Lib.hid (blk_keep HB0.out (Keeps.of_below hw2 (bs := [])) (by simp)); clear hb2 hw2)
    | (go_at_call 55; refine (first_is A hf c xs w2 HX.out HB2.out).mono ?_; rintro e w3 ⟨B, d, rfl, hb3, hn3, hk3⟩; have HB3 := Lib.hid hb3; have HK3 := Lib.hid (HK2.out.trans' hk3); have HS3 := Lib.hid (blk_keep HS2.out hk3 (by simp)); clear hb3 hn3 hk3)
    | (go_at_call 56; refine (title_no B _ d w3 ht8 hfl).mono ?_; rintro e w4 ⟨rfl, hk4⟩; have HK4 := Lib.hid (HK3.out.trans' hk4); have HS4 := Lib.hid (blk_keep HS3.out hk4 (by simp)); clear hk4))
  have hS5 := blk_keep HS4.out ((Keeps.refl [] w4).alloc (.cells #[.int .u32 0, .int .u32 0] 113)) (by simp)
  have HK5 := Lib.hid (HK4.out.alloc (.cells #[.int .u32 0, .int .u32 0] 113))
  obtain ⟨X, hX⟩ : ∃ X, w4.alloc (.cells #[.int .u32 0, .int .u32 0] 113) = X := ⟨_, rfl⟩
  rw [hX] at hS5 HK5 ⊢
  have HF := Lib.hid (area_store hS5 HK5.out (.int .i64 (at_ : Int)) (.int .u32 0) (.map none))
  obtain ⟨⟨c0, c1, c2⟩, f0, f1, f2⟩ := three_facts hS5
  clear hX
  go_step3
  refine ⟨rfl, ?_⟩
  go_wp2
  rw [Exit.noGoto_ret]
  obtain ⟨h1, h2⟩ := HF.out
  exact bodyPost_ret (res_cell_tmp rfl _ _ rfl h1) rfl ⟨rfl, h2⟩

end Go.Proofs.YthgpjlmdllihmaaGreat
/- The bytes of a table, and the table of bytes. -/
namespace Go.Proofs.YthgpjlmdllihmaaGreat
open Go.RowKit Go.Maps
set_option linter.unusedVariables false
set_option linter.unusedSimpArgs false
set_option maxRecDepth 100000

/-- A row's record. -/
def rowRec (p : List UInt8 × List UInt8) : List UInt8 := four p.1.length ++ (p.1 ++ p.2)
/-- A title's record. -/
def titleRec (turn many : Nat) : List UInt8 := four turn ++ four many
/-- A table's bytes. -/
def image (turn : Nat) (T : Tab) : List UInt8 := frameOf (titleRec turn T.length) ++ joinF (T.map rowRec)

/-- A table that may be. -/
structure Good (T : Tab) : Prop where
  rise : Rising T
  few : T.length ≤ 200
  key : ∀ p ∈ T, 1 ≤ p.1.length ∧ p.1.length ≤ 200 ∧ p.2.length ≤ 8192

theorem before_asymm {a b : List UInt8} (h : bytesBefore a b = true) : bytesBefore b a = false := by
  cases hb : bytesBefore b a
  · rfl
  · have := WideShapes.bytes_trans a b a h hb
    rw [before_irrefl] at this
    cases this

theorem tins_end {x : List UInt8 × List UInt8} : ∀ {T : Tab}, (∀ q ∈ T, bytesBefore q.1 x.1 = true) → tins x T = T ++ [x]
  | [], _ => rfl
  | y :: r, h => by
    unfold tins
    rw [if_neg (by rw [before_asymm (h y (by simp))]; decide), tins_end (fun q hq => h q (by simp [hq]))]
    rfl
theorem tput_end {k v : List UInt8} {T : Tab} (h : ∀ q ∈ T, bytesBefore q.1 k = true) : tput T k v = T ++ [(k, v)] ∧ thas T k = false := by
  have hne : ∀ q ∈ T, q.1 ≠ k := fun q hq e => by
    have := h q hq
    rw [e, before_irrefl] at this
    cases this
  have hd : tdel T k = T := by
    unfold tdel
    rw [List.filter_eq_self]
    intro q hq
    simpa using hne q hq
  refine ⟨by unfold tput; rw [hd]; exact tins_end h, ?_⟩
  unfold thas tget
  rw [Option.isSome_map, Bool.eq_false_iff]
  intro hc
  rw [List.find?_isSome] at hc
  obtain ⟨q, hq, he⟩ := hc
  exact hne q hq (by simpa using he)

theorem rowRec_is {p : List UInt8 × List UInt8} (h1 : 1 ≤ p.1.length) (h2 : p.1.length ≤ 200) (h3 : p.2.length ≤ 8192) : isRow (rowRec p) = true ∧ keyP (rowRec p) = p.1 ∧ valP (rowRec p) = p.2 := by
  have hn : num4 (rowRec p) = p.1.length := num4_four (by omega) _
  have hk : keyN (rowRec p) = p.1.length := by unfold keyN; rw [hn]; omega
  have hd : (rowRec p).drop 4 = p.1 ++ p.2 := List.drop_left' (four_len _)
  have hkp : keyP (rowRec p) = p.1 := by unfold keyP; rw [hk, hd, List.take_left' rfl]
  have hvp : valP (rowRec p) = p.2 := by unfold valP; rw [hk, hd, List.drop_left' rfl]
  refine ⟨?_, hkp, hvp⟩
  unfold isRow
  rw [hkp, hvp, hk]
  have hl : (rowRec p).length = 4 + (p.1.length + p.2.length) := by simp [rowRec, four_len]
  simp only [Bool.and_eq_true, decide_eq_true_eq, okKey, okVal]
  omega

theorem rowsGo_image {T : Tab} (hT : Good T) (rest : List (List UInt8)) : ∀ i, i ≤ T.length → rowsGo T.length ((T.drop i).map rowRec ++ rest) (T.take i) = some T := by
  intro i hi
  induction hj : T.length - i generalizing i with
  | zero =>
    have : i = T.length := by omega
    subst this
    rw [List.drop_length, List.take_length]
    exact rowsGo_stop rfl
  | succ n ih =>
    have hlt : i < T.length := by omega
    rw [List.drop_eq_getElem_cons hlt, List.map_cons, List.cons_append]
    obtain ⟨k1, k2, k3⟩ := hT.key _ (List.getElem_mem hlt)
    obtain ⟨r1, r2, r3⟩ := rowRec_is k1 k2 k3
    have hb : ∀ q ∈ T.take i, bytesBefore q.1 (T[i]).1 = true := by
      intro q hq
      obtain ⟨j, hj2, he⟩ := List.mem_iff_getElem.1 hq
      rw [List.length_take] at hj2
      rw [List.getElem_take] at he
      subst he
      exact List.pairwise_iff_getElem.1 hT.rise j i (by omega) hlt (by omega)
    obtain ⟨e1, e2⟩ := tput_end (v := (T[i]).2) hb
    have hne : (T.take i).length ≠ T.length := by rw [List.length_take]; omega
    have ht : T.take i ++ [((T[i]).1, (T[i]).2)] = T.take (i + 1) := (List.take_succ_eq_append_getElem hlt).symm
    simp only [rowsGo, if_neg hne, r1, r2, r3, e2, e1, ht, Bool.not_false, Bool.and_self, if_true]
    exact ih (i + 1) (by omega) (by omega)

theorem rowRec_len (p : List UInt8 × List UInt8) : (rowRec p).length = 4 + p.1.length + p.2.length := by
  simp [rowRec, four_len]
  omega
theorem joinF_rows_len (T : Tab) : (joinF (T.map rowRec)).length = tweight T := by
  rw [joinF_len]
  induction T with
  | nil => rfl
  | cons p T ih =>
    rw [List.map_cons, offs_cons, ih, tweight_cons, rowRec_len]
    omega
theorem image_len (turn : Nat) (T : Tab) : (image turn T).length = 20 + tweight T := by
  unfold image
  rw [List.length_append, frameOf_len, joinF_rows_len]
  simp [titleRec, four_len]

/-- What an area has whose table was laid there, whatever stands behind it. -/
theorem area_image {turn : Nat} {T : Tab} {half : Nat} (ht : turn < 4294967296) (hT : Good T) (hw : tweight T + 64 ≤ half) (junk : List UInt8) : areaP half (image turn T ++ junk) = some (turn, T) := by
  have hx : image turn T ++ junk = frameOf (titleRec turn T.length) ++ (joinF (T.map rowRec) ++ junk) := by simp [image]
  have htl : (titleRec turn T.length).length = 8 := by simp [titleRec, four_len]
  have hf : framed (image turn T ++ junk) = true := by rw [hx]; exact frameOf_framed (by omega) _
  have hr : fstR (image turn T ++ junk) = titleRec turn T.length := by
    unfold fstR
    rw [hf, if_pos rfl, hx]
    exact frameOf_rec (by omega) _
  have hti : isTitle (image turn T ++ junk) = true := by unfold isTitle; rw [hr, htl]; rfl
  have htu : turnP (image turn T ++ junk) = turn := by unfold turnP; rw [hr]; exact num4_four ht _
  have hfew := hT.few
  have hma : manyP (image turn T ++ junk) = T.length := by
    unfold manyP
    rw [hr]
    have : (titleRec turn T.length).drop 4 = four T.length ++ [] := by
      rw [List.append_nil]
      exact List.drop_left' (four_len _)
    rw [this]
    exact num4_four (by omega) _
  have hd : (image turn T ++ junk).drop 20 = joinF (T.map rowRec) ++ junk := by
    rw [hx]
    exact List.drop_left' (by rw [frameOf_len, htl])
  have hrec : recs (joinF (T.map rowRec) ++ junk) = T.map rowRec ++ recs junk := recs_joinF _ _ (fun r hr => by
    obtain ⟨p, hp, rfl⟩ := List.mem_map.1 hr
    have := hT.key p hp
    rw [rowRec_len]
    omega)
  have hrp : rowsP T.length (joinF (T.map rowRec) ++ junk) = some T := by
    unfold rowsP
    rw [hrec]
    have := rowsGo_image hT (recs junk) 0 (Nat.zero_le _)
    simpa using this
  have hok : rowsOk T.length (joinF (T.map rowRec) ++ junk) = true := by
    unfold rowsOk
    rw [hrp]
    simp [hfew]
  unfold areaP
  rw [hti, hma, hd, hok, hrp, htu]
  simp [hw]

/-- No table where the first byte is none of a title's head. -/
theorem area_head0 {half : Nat} {xs : List UInt8} (h : xs[0]? ≠ some 9) : areaP half xs = none := by
  have : isTitle xs = false := by
    rw [Bool.eq_false_iff]
    intro ht
    obtain ⟨hf, _, h20⟩ := title_framed ht
    simp only [isTitle, decide_eq_true_eq] at ht
    have h1 : fstR xs = recOf xs := by simp [fstR, hf]
    rw [h1] at ht
    have h2 := (recOf_len hf).2.2
    have h3 : num4 xs = 9 := by omega
    obtain ⟨u, hu⟩ : ∃ u, xs[0]? = some u := ⟨xs[0]'(by omega), List.getElem?_eq_getElem _⟩
    rw [hu] at h
    have h4 := u.toNat_lt
    unfold num4 at h3
    rw [hu, Option.getD_some] at h3
    have h5 : u.toNat = 9 := by omega
    exact h (by rw [← UInt8.toNat_inj.1 (show u.toNat = (9 : UInt8).toNat from h5)])
  simp [areaP, this]

/-- .. nor where the eighth byte is none. -/
theorem area_head7 {half : Nat} {xs : List UInt8} (h : xs[7]? ≠ some 255) : areaP half xs = none := by
  have : isTitle xs = false := by
    rw [Bool.eq_false_iff]
    intro ht
    obtain ⟨hf, _, h20⟩ := title_framed ht
    simp only [isTitle, decide_eq_true_eq] at ht
    have h1 : fstR xs = recOf xs := by simp [fstR, hf]
    rw [h1] at ht
    have h2 := (recOf_len hf).2.2
    have h3 : num4 xs = 9 := by omega
    have h6 := (framed_iff.1 hf).2.2.2.1
    obtain ⟨u, hu⟩ : ∃ u, xs[7]? = some u := ⟨xs[7]'(by omega), List.getElem?_eq_getElem _⟩
    rw [hu] at h
    have h4 := u.toNat_lt
    unfold num4 at h6
    rw [show (xs.drop 4)[3]? = xs[7]? by rw [List.getElem?_drop], hu, Option.getD_some] at h6
    have l0 := ((xs.drop 4)[0]?.getD 0).toNat_lt
    have l1 := ((xs.drop 4)[1]?.getD 0).toNat_lt
    have l2 := ((xs.drop 4)[2]?.getD 0).toNat_lt
    have h7 : num4 xs = 9 := h3
    unfold num4 at h7
    have h5 : u.toNat = 255 := by omega
    exact h (by rw [← UInt8.toNat_inj.1 (show u.toNat = (255 : UInt8).toNat from h5)])
  simp [areaP, this]

end Go.Proofs.YthgpjlmdllihmaaGreat
