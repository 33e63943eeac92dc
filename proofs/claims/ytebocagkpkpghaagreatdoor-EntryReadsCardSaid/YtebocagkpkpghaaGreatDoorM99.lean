/- Texts of one proof, laid together: Y1 Y2. -/
import Derived.Shelf.Strings.Search2
import Derived.Test.YtebocagkpkpghaaGreatDoorM86
import Derived.BigQuiet
/- entry: strings.Cut at one byte, by the shelf. -/
namespace Go.Proofs.YtebocagkpkpghaaGreatDoor
open Go.RowKit Go.Shelf
set_option linter.unusedVariables false
set_option linter.unusedSimpArgs false
set_option maxRecDepth 100000

def cut_ren : Go.Shelf.Ren := ⟨fun | 217 => 152 | 219 => 144 | 224 => 154 | 225 => 153 | 266 => 158 | 267 => 155 | 314 => 159 | n => n, fun | 3 => 3 | 4 => 4 | 5 => 5 | 9 => 9 | 46 => 134 | 51 => 156 | 146 => 196 | n => n, fun | 1 => 5 | n => n⟩
theorem slindex_lays : Lays.n219 Tryz.prog cut_ren where
  mixed := by kernel_rfl
  f217 := Tryz.func152.trans (congrArg some (by kernel_rfl))
  f219 := Tryz.func144.trans (congrArg some (by kernel_rfl))
  f224 := Tryz.func154.trans (congrArg some (by kernel_rfl))
  f225 := Tryz.func153.trans (congrArg some (by kernel_rfl))
  f266 := Tryz.func158.trans (congrArg some (by kernel_rfl))
  f267 := Tryz.func155.trans (congrArg some (by kernel_rfl))
  f314 := Tryz.func159.trans (congrArg some (by kernel_rfl))
  t3 := Tryz.underlying3
  a3 := Tryz.isAgg3
  z3 := Tryz.sizeOf3
  v3 := Tryz.zeroValue3
  t4 := Tryz.underlying4
  a4 := Tryz.isAgg4
  z4 := Tryz.sizeOf4
  v4 := Tryz.zeroValue4
  t5 := Tryz.underlying5
  a5 := Tryz.isAgg5
  z5 := Tryz.sizeOf5
  v5 := Tryz.zeroValue5
  t9 := Tryz.underlying9
  a9 := Tryz.isAgg9
  z9 := Tryz.sizeOf9
  v9 := Tryz.zeroValue9
  t46 := Tryz.underlying134
  a46 := Tryz.isAgg134
  z46 := Tryz.sizeOf134
  v46 := Tryz.zeroValue134
  t51 := Tryz.underlying156
  a51 := Tryz.isAgg156
  z51 := Tryz.sizeOf156
  v51 := Tryz.zeroValue156
  t146 := Tryz.underlying196
  a146 := Tryz.isAgg196
  z146 := Tryz.sizeOf196
  v146 := Tryz.zeroValue196
  g1 := by kernel_rfl

/-- What stands ahead of the first of a byte, and behind it, if there is one. -/
def cutP (b : UInt8) : Txt → Txt × Option Txt
  | [] => ([], none)
  | c :: r => if c = b then ([], some r) else (c :: (cutP b r).1, (cutP b r).2)
theorem cutP_some {b : UInt8} : ∀ {s r : Txt}, (cutP b s).2 = some r → s = (cutP b s).1 ++ b :: r
  | [], r, h => by cases h
  | c :: t, r, h => by
    unfold cutP at h ⊢
    split
    · rename_i hc
      rw [if_pos hc] at h
      injection h with h
      rw [h, hc]
      rfl
    · rename_i hc
      rw [if_neg hc] at h
      have := cutP_some (s := t) h
      rw [List.cons_append, ← this]
theorem cutP_none {b : UInt8} : ∀ {s : Txt}, (cutP b s).2 = none → (cutP b s).1 = s
  | [], _ => rfl
  | c :: t, h => by
    unfold cutP at h ⊢
    split
    · rename_i hc
      rw [if_pos hc] at h
      cases h
    · rename_i hc
      rw [if_neg hc] at h
      rw [cutP_none h]
theorem cutP_index (b : UInt8) : ∀ s : Txt, Lib.indexByte s b = if (cutP b s).2.isSome = true then (((cutP b s).1.length : Nat) : Int) else -1
  | [] => rfl
  | c :: r => by
    have ih := cutP_index b r
    unfold Lib.indexByte cutP
    by_cases hc : c = b
    · rw [if_pos hc, if_pos (by simpa using hc)]
      rfl
    · rw [if_neg hc, if_neg (by simpa using hc), ih]
      cases h : (cutP b r).2 with
      | none => rfl
      | some x =>
        simp only [Option.isSome_some, if_true, List.length_cons]
        rw [if_neg (by first | (simp; done) | (simp; omega))]
        first | done | omega
theorem cutP_len {b : UInt8} (s : Txt) : (cutP b s).1.length ≤ s.length := by
  cases h : (cutP b s).2 with
  | none => rw [cutP_none h]; exact Nat.le_refl _
  | some r =>
    have := congrArg List.length (cutP_some h)
    simp at this
    omega
theorem cutP_rest {b : UInt8} (s : Txt) : ((cutP b s).2.getD []).length ≤ s.length := by
  cases h : (cutP b s).2 with
  | none => simp
  | some r =>
    have := congrArg List.length (cutP_some h)
    simp at this ⊢
    omega
/-- What a call of Cut answers. -/
def CutQ (b : UInt8) (s : Txt) (w : World) (e : Ending) (w' : World) : Prop :=
  e = .returned (.tuple #[tv (cutP b s).1, tv ((cutP b s).2.getD []), .bool (cutP b s).2.isSome]) ∧ Keeps [] w w'
theorem str_upto (T : Txt) (j : Nat) (hj : j ≤ T.length) (W : World) : (Instr.slice 9 (.string ⟨T.toArray⟩) none (some (.int .i64 (j : Int))) none).run Tryz.prog W = .ok (.string ⟨(T.take j).toArray⟩) W := by
  rw [run_slice_string_to_if W 9 ⟨T.toArray⟩ .i64 (j : Int) Tryz.underlying9, if_pos ⟨by omega, by show (j : Int) ≤ (T.length : Int); omega⟩]
  rw [show ((j : Int)).toNat = j by omega, ByteArray.extract_mk]
  congr 2
theorem str_from7 (T : Txt) (i : Nat) (hi : i ≤ T.length) (W : World) : (Instr.slice 9 (.string ⟨T.toArray⟩) (some (.int .i64 (i : Int))) none none).run Tryz.prog W = .ok (.string ⟨(T.drop i).toArray⟩) W := by
  rw [run_slice_string_from_if W 9 ⟨T.toArray⟩ .i64 (i : Int) Tryz.underlying9, if_pos ⟨by omega, by show (i : Int) ≤ (T.length : Int); omega⟩]
  rw [show ((i : Int)).toNat = i by omega, ByteArray.extract_mk]
  congr 2
  show ByteArray.mk (List.take (T.length - i) (T.drop i)).toArray = _
  rw [List.take_of_length_le (by rw [List.length_drop]; omega)]
set_option maxHeartbeats 4000000 in
theorem slcut_is (b : UInt8) (s : Txt) (w : World) (hs : s.length ≤ 1000000000) :
    Calls Tryz.prog 129 #[tv s, .string ⟨#[b]⟩] w (CutQ b s w) := by
  have HIX := Lib.hid (fun W : World => Any.stringslite_Index_one slindex_lays ⟨s.toArray⟩ b W)
  have hix : Lib.indexByte s b = if (cutP b s).2.isSome = true then (((cutP b s).1.length : Nat) : Int) else -1 := cutP_index b s
  have hdl : (⟨s.toArray⟩ : ByteArray).data.toList = s := by simp
  rw [hdl, hix] at HIX
  unfold CutQ
  have hl := cutP_len (b := b) s
  cases h : (cutP b s).2 with
  | none =>
    rw [h] at HIX
    have h1 := cutP_none h
    rw [h1]
    simp only [Option.isSome_none, Bool.false_eq_true, if_false, Option.getD_none] at HIX ⊢
    unfold tv
    clear h hl h1 hix hdl
    go_enter Tryz.func129, Tryz.ntmps129
    go_wp2_with fail
    refine (HIX.out _).mono ?_
    rintro e w1 ⟨rfl, rfl⟩
    go_wp2_with fail
    refine bodyPost_ret (results_tmp3 rfl _ _ _) rfl ?_
    exact ⟨rfl, Keeps.refl _ _⟩
  | some r =>
    rw [h] at HIX
    have h1 := cutP_some h
    simp only [Option.isSome_some, if_true, Option.getD_some] at HIX ⊢
    obtain ⟨a, ha⟩ : ∃ a, (cutP b s).1 = a := ⟨_, rfl⟩
    rw [ha] at HIX hl h1 ⊢
    obtain ⟨k, hk⟩ : ∃ k, a.length = k := ⟨_, rfl⟩
    rw [hk] at HIX hl
    have hsl : s.length = k + 1 + r.length := by rw [h1]; simp; omega
    have e1 : s.take k = a := by rw [h1, ← hk]; simp
    have e2 : s.drop (k + 1) = r := by rw [h1, ← hk]; simp
    have g1 := fun W : World => str_upto s k (by omega) W
    have g2 := fun W : World => str_from7 s (k + 1) (by omega) W
    rw [e1] at g1
    rw [e2] at g2
    rw [show ((k + 1 : Nat) : Int) = (k : Int) + 1 by omega] at g2
    have hk0 : (0 : Int) ≤ (k : Int) := by omega
    unfold tv
    clear h hl h1 hix hdl hk ha e1 e2
    go_enter Tryz.func129, Tryz.ntmps129
    go_wp2_with fail
    refine (HIX.out _).mono ?_
    rintro e w1 ⟨rfl, rfl⟩
    go_wp2_with fail
    go_quiet (fail)
    go_wp2_with fail
    refine bodyPost_ret (results_tmp3 rfl _ _ _) rfl ?_
    exact ⟨rfl, (Keeps.refl _ _).drewN _⟩
end Go.Proofs.YtebocagkpkpghaaGreatDoor
/- entry: the reader's cut, must, until, first; walked. -/
namespace Go.Proofs.YtebocagkpkpghaaGreatDoor
open Go.RowKit Go.Shelf
set_option linter.unusedVariables false
set_option linter.unusedSimpArgs false
set_option maxRecDepth 100000

theorem scut_is (b : UInt8) (s : Txt) (w : World) (hs : s.length ≤ 1000000000) :
    Calls Tryz.prog 105 #[tv s, .string ⟨#[b]⟩] w (CutQ b s w) := by
  have HC := Lib.hid (fun X : World => slcut_is b s X hs)
  unfold CutQ at HC ⊢
  obtain ⟨x, hx⟩ : ∃ x, (cutP b s).1 = x := ⟨_, rfl⟩
  obtain ⟨y, hy⟩ : ∃ y, (cutP b s).2.getD [] = y := ⟨_, rfl⟩
  obtain ⟨q, hq⟩ : ∃ q, (cutP b s).2.isSome = q := ⟨_, rfl⟩
  rw [hx, hy, hq] at HC ⊢
  unfold tv at HC ⊢
  clear hx hy hq hs
  go_enter Tryz.func105, Tryz.ntmps105
  go_wp2_with fail
  refine (HC.out _).mono ?_
  rintro e w1 ⟨rfl, hk⟩
  have HK := Lib.hid hk
  clear hk
  go_wp2_with fail
  refine bodyPost_ret (results_tmp3 rfl _ _ _) rfl ?_
  exact ⟨rfl, HK.out⟩

/-- A reader in memory: what is left of its text, and whether it is bad. -/
def RdAt (w : World) (g : Nat) (T : Txt) (B : Bool) : Prop := w.heap[g]? = some (.cells #[tv T, .bool B] 92 (0, 0))
theorem RdAt.cells {w : World} {g : Nat} {T : Txt} {B : Bool} (h : RdAt w g T B) : (w.cell? ⟨g, 0, none⟩ = some (.string ⟨T.toArray⟩) ∧ w.cell? ⟨g, 1, none⟩ = some (.bool B)) ∧ (w.frozen? ⟨g, 0, none⟩ = false ∧ w.frozen? ⟨g, 1, none⟩ = false) := blk2 h
theorem RdAt.keep {w w' : World} {g : Nat} {T : Txt} {B : Bool} (h : RdAt w g T B) (hk : Keeps [] w w') : RdAt w' g T B := blk_keep h hk (by simp)
theorem RdAt.text {w : World} {g : Nat} {T : Txt} {B : Bool} (h : RdAt w g T B) (T' : Txt) : RdAt (w.setCell ⟨g, 0, none⟩ (tv T')) g T' B := heap_setCell_same w g 0 _ _ (tv T') h
theorem RdAt.flag {w : World} {g : Nat} {T : Txt} {B : Bool} (h : RdAt w g T B) (B' : Bool) : RdAt (w.setCell ⟨g, 1, none⟩ (.bool B')) g T B' := heap_setCell_same w g 1 _ _ (.bool B') h
theorem RdAt.lt {w : World} {g : Nat} {T : Txt} {B : Bool} (h : RdAt w g T B) : g < w.heap.size := lt_of_heap h
set_option maxHeartbeats 4000000 in
theorem rcut_is (g : Nat) (T : Txt) (B : Bool) (b : UInt8) (w : World) (h : RdAt w g T B) (hT : T.length ≤ 1000000000) :
    Calls Tryz.prog 90 #[.pointer (some ⟨g, 0, none⟩), .string ⟨#[b]⟩] w fun e w' => e = .returned (.tuple #[tv (cutP b T).1, .bool (cutP b T).2.isSome]) ∧ RdAt w' g ((cutP b T).2.getD []) B ∧ Keeps [g] w w' := by
  have HR := Lib.hid h
  obtain ⟨⟨c0, c1⟩, f0, f1⟩ := h.cells
  have HC := Lib.hid (fun X : World => scut_is b T X hT)
  unfold CutQ at HC
  obtain ⟨x, hx⟩ : ∃ x, (cutP b T).1 = x := ⟨_, rfl⟩
  obtain ⟨y, hy⟩ : ∃ y, (cutP b T).2.getD [] = y := ⟨_, rfl⟩
  obtain ⟨q, hq⟩ : ∃ q, (cutP b T).2.isSome = q := ⟨_, rfl⟩
  rw [hx, hy, hq] at HC
  rw [hx, hy, hq]
  unfold tv at HC ⊢
  clear hx hy hq hT h
  go_enter Tryz.func90, Tryz.ntmps90
  go_wp2_with fail
  refine (HC.out _).mono ?_
  rintro e w1 ⟨rfl, hk⟩
  have HR1 := Lib.hid (HR.out.keep hk)
  have HK := Lib.hid hk
  clear hk c0 c1 f0 f1
  obtain ⟨⟨c0, c1⟩, f0, f1⟩ := HR1.out.cells
  have HR2 := Lib.hid (HR1.out.text y)
  have HK2 : Hid (Keeps [g] w (w1.setCell ⟨g, 0, none⟩ (tv y))) := (HK.out.mono (by simp)).setCell (.inl (by simp)) _
  unfold tv at HR2 HK2
  go_wp2_with fail
  refine bodyPost_ret (results_tmp2 rfl _ _ _) rfl ?_
  exact ⟨rfl, HR2.out, HK2.out⟩
set_option maxHeartbeats 4000000 in
theorem rmust_is (g : Nat) (T : Txt) (B q : Bool) (w : World) (h : RdAt w g T B) :
    Calls Tryz.prog 91 #[.pointer (some ⟨g, 0, none⟩), .bool q] w fun e w' => (∃ v, e = .returned v) ∧ RdAt w' g T (B || !q) ∧ Keeps [g] w w' := by
  have HR := Lib.hid h
  obtain ⟨⟨c0, c1⟩, f0, f1⟩ := h.cells
  have HR2 := Lib.hid (fun x => h.flag x)
  have HK2 : Hid (∀ x, Keeps [g] w (w.setCell ⟨g, 1, none⟩ x)) := fun x => (Keeps.refl [g] w).setCell (.inl (by simp)) _
  clear h
  cases B
  · go_enter Tryz.func91, Tryz.ntmps91
    go_wp2_with fail
    go_end0
    exact ⟨⟨_, rfl⟩, HR2.out _, HK2.out _⟩
  · go_enter Tryz.func91, Tryz.ntmps91
    go_wp2_with fail
    go_end0
    exact ⟨⟨_, rfl⟩, HR2.out _, HK2.out _⟩
set_option maxHeartbeats 4000000 in
theorem runtil_is (g : Nat) (T : Txt) (B : Bool) (b : UInt8) (w : World) (h : RdAt w g T B) (hT : T.length ≤ 1000000000) :
    Calls Tryz.prog 77 #[.pointer (some ⟨g, 0, none⟩), .string ⟨#[b]⟩] w fun e w' => e = .returned (tv (cutP b T).1) ∧ RdAt w' g ((cutP b T).2.getD []) (B || !(cutP b T).2.isSome) ∧ Keeps [g] w w' := by
  have HC := Lib.hid (rcut_is g T B b w h hT)
  have HM := Lib.hid (fun T q X (hX : RdAt X g T B) => rmust_is g T B q X hX)
  obtain ⟨⟨c0, c1⟩, f0, f1⟩ := h.cells
  obtain ⟨x, hx⟩ : ∃ x, (cutP b T).1 = x := ⟨_, rfl⟩
  obtain ⟨y, hy⟩ : ∃ y, (cutP b T).2.getD [] = y := ⟨_, rfl⟩
  obtain ⟨q, hq⟩ : ∃ q, (cutP b T).2.isSome = q := ⟨_, rfl⟩
  rw [hx, hy, hq] at HC
  rw [hx, hy, hq]
  unfold tv at HC ⊢
  clear hx hy hq hT h
  go_enter Tryz.func77, Tryz.ntmps77
  go_wp2_with fail
  refine HC.out.mono ?_
  rintro e w1 ⟨rfl, hr, hk⟩
  have HR1 := Lib.hid hr
  have HK := Lib.hid hk
  clear hk hr c0 c1 f0 f1
  go_wp2_with fail
  refine (HM.out _ _ _ HR1.out).mono ?_
  rintro e w2 ⟨⟨v, rfl⟩, hr2, hk2⟩
  have HR2 := Lib.hid hr2
  have HK2 : Hid (Keeps [g] w w2) := HK.out.trans hk2 (fun x hx => .inl hx)
  clear hr2 hk2
  go_wp2_with fail
  go_ret
  exact ⟨rfl, HR2.out, HK2.out⟩
end Go.Proofs.YtebocagkpkpghaaGreatDoor
