/- Texts of one proof, laid together: N21 N22 N23. -/
import Derived.Test.YtmgkejgmkfeccaaDoorM09
import Derived.StillTailTactics
/- dn: texts cut, as words. -/
namespace Go.Proofs.YtmgkejgmkfeccaaDoor
open Go.RowKit Go.Shelf
set_option linter.unusedVariables false
set_option linter.unusedSimpArgs false
set_option maxRecDepth 100000

/-- What stands ahead of the next of a byte that has no backslash ahead, and what stands behind it, if there is one. -/
def cutL (at_ : UInt8) : List UInt8 → List UInt8 × Option (List UInt8)
  | [] => ([], none)
  | [c] => if c = at_ then ([], some []) else ([c], none)
  | c :: e :: r =>
    if c = at_ then ([], some (e :: r))
    else if c = 92 then (c :: e :: (cutL at_ r).1, (cutL at_ r).2)
    else (c :: (cutL at_ (e :: r)).1, (cutL at_ (e :: r)).2)

theorem cutL_at (a : UInt8) (r : List UInt8) : cutL a (a :: r) = ([], some r) := by
  cases r <;> simp [cutL]
theorem cutL_bs (a e : UInt8) (r : List UInt8) (h : (92 : UInt8) ≠ a) : cutL a (92 :: e :: r) = (92 :: e :: (cutL a r).1, (cutL a r).2) := by
  simp [cutL, h]
theorem cutL_one (a c : UInt8) (h : c ≠ a) : cutL a [c] = ([c], none) := by simp [cutL, h]
theorem cutL_more (a c : UInt8) (r : List UInt8) (h : c ≠ a) (h2 : c ≠ 92) : cutL a (c :: r) = (c :: (cutL a r).1, (cutL a r).2) := by
  cases r with
  | nil => simp [cutL, h]
  | cons e r => rw [cutL]; simp [h, h2]
theorem cutL_all (a : UInt8) (xs : List UInt8) : (cutL a xs).2 = none → (cutL a xs).1 = xs := by
  fun_induction cutL a xs with
  | case1 => simp
  | case2 => simp
  | case3 c h => simp
  | case4 e r => simp
  | case5 e r h ih => intro h2; simp [ih h2]
  | case6 c e r h h2 ih => intro h3; simp [ih h3]
theorem cutL_some (a : UInt8) (xs r : List UInt8) : (cutL a xs).2 = some r → xs = (cutL a xs).1 ++ a :: r := by
  fun_induction cutL a xs with
  | case1 => simp
  | case2 => intro h2; simp at h2; simp [h2]
  | case3 c h => simp
  | case4 e r => intro h2; simp at h2; simp [h2]
  | case5 e r h ih => intro h2; simp [← ih h2]
  | case6 c e r h h2 ih => intro h3; simp [← ih h3]

/-- How far the text is gone through. -/
def CutI (at_ : UInt8) (T : List UInt8) (f k : Nat) : Prop :=
  f ≤ k ∧ k ≤ T.length + 1 ∧ cutL at_ (T.drop f) = ((T.drop f).take (k - f) ++ (cutL at_ (T.drop k)).1, (cutL at_ (T.drop k)).2)
theorem CutI.start (a : UInt8) (T : List UInt8) (f : Nat) (h : f ≤ T.length) : CutI a T f f := ⟨Nat.le_refl _, by omega, by simp⟩
theorem take_more {T : List UInt8} {f k : Nat} {u : UInt8} (hfk : f ≤ k) (hu : T[k]? = some u) : (T.drop f).take (k - f) ++ [u] = (T.drop f).take (k + 1 - f) := by
  rw [show k + 1 - f = (k - f) + 1 by omega, List.take_add_one, List.getElem?_drop, show f + (k - f) = k by omega, hu]
  rfl
theorem drop_at {T : List UInt8} {k : Nat} {u : UInt8} (hu : T[k]? = some u) : T.drop k = u :: T.drop (k + 1) := by
  obtain ⟨hk, rfl⟩ := List.getElem?_eq_some_iff.1 hu
  exact List.drop_eq_getElem_cons hk
theorem CutI.next {a : UInt8} {T : List UInt8} {f k : Nat} {u : UInt8} (h : CutI a T f k) (hu : T[k]? = some u) (h1 : u ≠ a) (h2 : u ≠ 92) : CutI a T f (k + 1) := by
  obtain ⟨h3, h4, h5⟩ := h
  have hk := (List.getElem?_eq_some_iff.1 hu).1
  refine ⟨by omega, by omega, ?_⟩
  rw [h5, drop_at hu, cutL_more a u _ h1 h2, ← take_more h3 hu]
  simp
theorem CutI.over {a : UInt8} {T : List UInt8} {f k : Nat} (h : CutI a T f k) (hu : T[k]? = some 92) (h1 : (92 : UInt8) ≠ a) : CutI a T f (k + 2) := by
  obtain ⟨h3, h4, h5⟩ := h
  have hk := (List.getElem?_eq_some_iff.1 hu).1
  refine ⟨by omega, by omega, ?_⟩
  rw [h5, drop_at hu]
  cases he : T[k + 1]? with
  | none =>
    have hn : T.length ≤ k + 1 := List.getElem?_eq_none_iff.1 he
    have hd : T.drop (k + 1) = [] := List.drop_of_length_le hn
    have hd2 : T.drop (k + 2) = [] := List.drop_of_length_le (by omega)
    rw [hd, hd2, cutL_one a 92 h1]
    have h9 : (T.drop f).take (k - f) ++ [92] = (T.drop f).take (k + 2 - f) := by
      rw [take_more h3 hu, List.take_of_length_le (by rw [List.length_drop]; omega), List.take_of_length_le (by rw [List.length_drop]; omega)]
    rw [h9]
    simp [cutL]
  | some e =>
    rw [drop_at he, cutL_bs a e _ h1, ← take_more (k := k + 1) (by omega) he, ← take_more h3 hu]
    simp
theorem CutI.found {a : UInt8} {T : List UInt8} {f k : Nat} (h : CutI a T f k) (hu : T[k]? = some a) : cutL a (T.drop f) = ((T.drop f).take (k - f), some (T.drop (k + 1))) := by
  rw [h.2.2, drop_at hu, cutL_at]
  simp
theorem CutI.none {a : UInt8} {T : List UInt8} {f k : Nat} (h : CutI a T f k) (hk : T.length ≤ k) : cutL a (T.drop f) = (T.drop f, none) := by
  have h9 := h.2.2
  rw [List.drop_of_length_le hk] at h9
  rw [h9, List.take_of_length_le (by rw [List.length_drop]; omega)]
  simp [cutL]

theorem str_cut (T : List UInt8) (i j : Nat) (h : i ≤ j) (hj : j ≤ T.length) (W : World) : (Instr.slice 9 (.string ⟨T.toArray⟩) (some (.int .i64 (i : Int))) (some (.int .i64 (j : Int))) none).run Tryd.prog W = .ok (.string ⟨((T.drop i).take (j - i)).toArray⟩) W := by
  rw [run_slice_string W 9 ⟨T.toArray⟩ .i64 .i64 (i : Int) (j : Int) Tryd.underlying9 (by omega) (by omega) (by show (j : Int) ≤ (T.length : Int); omega)]
  rw [show ((i : Int)).toNat = i by omega, show ((j : Int)).toNat = j by omega, ByteArray.extract_mk]
theorem str_from (T : List UInt8) (i : Nat) (hi : i ≤ T.length) (W : World) : (Instr.slice 9 (.string ⟨T.toArray⟩) (some (.int .i64 (i : Int))) none none).run Tryd.prog W = .ok (.string ⟨(T.drop i).toArray⟩) W := by
  rw [run_slice_string_from_if W 9 ⟨T.toArray⟩ .i64 (i : Int) Tryd.underlying9, if_pos ⟨by omega, by show (i : Int) ≤ (T.length : Int); omega⟩]
  rw [show ((i : Int)).toNat = i by omega, ByteArray.extract_mk]
  congr 2
  show ByteArray.mk (List.take (T.length - i) (T.drop i)).toArray = _
  rw [List.take_of_length_le (by rw [List.length_drop]; omega)]

end Go.Proofs.YtmgkejgmkfeccaaDoor
/- dn: cutter's closure; walked. -/
namespace Go.Proofs.YtmgkejgmkfeccaaDoor
open Go.RowKit Go.Shelf
set_option linter.unusedVariables false
set_option linter.unusedSimpArgs false
set_option maxRecDepth 100000

/-- A box with one value. -/
def Box1 (w : World) (p : Nat) (t : TypeId) (v : Value) : Prop := w.heap[p]? = some (.cells #[v] t (0, 0))
theorem Box1.cell {w : World} {p : Nat} {t : TypeId} {v : Value} (h : Box1 w p t v) : w.cell? ⟨p, 0, none⟩ = some v := by rw [cell_of_blk h]; rfl
theorem Box1.free {w : World} {p : Nat} {t : TypeId} {v : Value} (h : Box1 w p t v) : w.frozen? ⟨p, 0, none⟩ = false := by
  unfold Box1 at h
  simp [World.frozen?, h]
theorem Box1.set {w : World} {p : Nat} {t : TypeId} {v : Value} (h : Box1 w p t v) (v' : Value) : Box1 (w.setCell ⟨p, 0, none⟩ v') p t v' := by
  unfold Box1 at *
  simp [World.setCell, Array.getElem?_modify, h]
theorem Box1.keep {w X : World} {p : Nat} {t : TypeId} {v : Value} {bs : List Nat} (h : Box1 w p t v) (hk : Keeps bs w X) (hb : p ∉ bs) : Box1 X p t v := blk_keep h hk hb
theorem Box1.lt {w : World} {p : Nat} {t : TypeId} {v : Value} (h : Box1 w p t v) : p < w.heap.size := lt_of_heap h
def placeOf (w : World) (p : Nat) : Nat := match w.cell? ⟨p, 0, none⟩ with | some (.int _ k) => k.toNat | _ => 0
theorem placeOf_is {w : World} {p k : Nat} (h : w.cell? ⟨p, 0, none⟩ = some (.int .i64 (k : Int))) : placeOf w p = k := by
  unfold placeOf
  rw [h]
  simp

set_option maxHeartbeats 4000000 in
theorem cutter1_is (T : List UInt8) (a : UInt8) (p g f : Nat) (w : World) (hl : T.length ≤ 9000000000000000000) (hf : f ≤ T.length) (ha : (92 : UInt8) ≠ a) (hp : Box1 w p 3 (.int .i64 (f : Int))) (hg : Box1 w g 9 (.string ⟨T.toArray⟩)) (hpg : g ≠ p) :
    Calls Tryd.prog 68 #[.int .u8 (a.toNat : Int), .pointer (some ⟨p, 0, none⟩), .pointer (some ⟨g, 0, none⟩)] w fun e w' => ∃ q : Nat, e = .returned (.tuple #[.string ⟨(cutL a (T.drop f)).1.toArray⟩, .bool (cutL a (T.drop f)).2.isSome]) ∧ Box1 w' p 3 (.int .i64 (q : Int)) ∧ (∀ r, (cutL a (T.drop f)).2 = some r → q ≤ T.length ∧ T.drop q = r) ∧ Keeps [p] w w' := by
  have HG := Lib.hid (fun X (hk : Keeps [p] w X) => (hg.keep hk (by simpa using hpg)))
  have HI := Lib.hid (CutI.start a T f hf)
  have HP := Lib.hid hp
  have HA := Lib.hid ha
  have hal : a.toNat < 256 := a.toNat_lt
  obtain ⟨L, hL⟩ : ∃ L, T.length = L := ⟨_, rfl⟩
  rw [hL] at hl hf
  have HL := Lib.hid hL
  have x0 := hp.cell
  clear hg hp hpg ha hL
  go_enter Tryd.func68, Tryd.ntmps68
  go_wp2_with fail
  clear x0
  go_loopw [8] (fun _ wr => ∃ k : Nat, Hid (CutI a T f k) ∧ Hid (Box1 wr p 3 (.int .i64 (k : Int))) ∧ Hid (Keeps [p] w wr)) (fun _ wr => L + 2 - placeOf wr p)
  case atStart => exact ⟨f, HI.out, HP.out, Keeps.refl _ _⟩
  case round =>
    obtain ⟨k, HC, HB, HKR⟩ := hrel
    have hkl : k ≤ L + 1 := by have := HC.out.2.1; have := HL.out; omega
    have hfk : f ≤ k := HC.out.1
    have c0 := HB.out.cell
    have z0 := HB.out.free
    have c1 := (HG.out wr HKR.out).cell
    have HPK := Lib.hid (placeOf_is c0)
    have hTL : (⟨T.toArray⟩ : ByteArray).size = L := HL.out
    by_cases hlt : k < L
    · obtain ⟨u, hu⟩ : ∃ u, T[k]? = some u := ⟨_, List.getElem?_eq_getElem (by rw [HL.out]; exact hlt)⟩
      have hul : u.toNat < 256 := u.toNat_lt
      have hix := str_at T k u hu
      have hlti : (k : Int) < (L : Int) := by omega
      by_cases h1 : u = a
      · subst h1
        have HFD := Lib.hid (HC.out.found hu)
        have hsl := str_cut T f k hfk (by rw [HL.out]; omega)
        have HB2 := Lib.hid (HB.out.set (.int .i64 ((k : Int) + 1)))
        have HK2 := Lib.hid (HKR.out.setCell (p := ⟨p, 0, none⟩) (.inl (by simp)) (.int .i64 ((k : Int) + 1)))
        have hwr : wrap64 ((k : Int) + 1) = (k : Int) + 1 := by unfold wrap64; omega
        have c0' := HB2.out.cell
        have c1' := (HG.out _ HK2.out).cell
        clear hu HPK
        go_wp2_with fail
        go_ret2
        refine ⟨k + 1, by rw [HFD.out]; rfl, HB2.out, fun r hr => ?_, HK2.out⟩
        rw [HFD.out] at hr
        injection hr with hr
        exact ⟨by have := HL.out; omega, hr⟩
      · have hne : ¬ (u.toNat : Int) = (a.toNat : Int) := fun h => h1 (UInt8.toNat_inj.1 (by omega))
        have hneb : ((u.toNat : Int) == (a.toNat : Int)) = false := by simpa using hne
        have HB2 := Lib.hid (HB.out.set (.int .i64 ((k : Int) + 1)))
        have HK2 := Lib.hid (HKR.out.setCell (p := ⟨p, 0, none⟩) (.inl (by simp)) (.int .i64 ((k : Int) + 1)))
        have hwr : wrap64 ((k : Int) + 1) = (k : Int) + 1 := by unfold wrap64; omega
        by_cases h2 : u = 92
        · have h92 : (u.toNat : Int) = 92 := by rw [h2]; rfl
          have HC2 : Hid (CutI a T f (k + 2)) := HC.out.over (by rw [hu, h2]) HA.out
          have HB3 := Lib.hid (HB2.out.set (.int .i64 ((k : Int) + 1 + 1)))
          have HK3 := Lib.hid (HK2.out.setCell (p := ⟨p, 0, none⟩) (.inl (by simp)) (.int .i64 ((k : Int) + 1 + 1)))
          have hwr2 : wrap64 ((k : Int) + 1 + 1) = (k : Int) + 1 + 1 := by unfold wrap64; omega
          clear hu h1 h2
          go_wp2_with fail
          go_roundw
          case rel => exact ⟨k + 2, HC2.out, HB3.out, HK3.out⟩
          case measure =>
            have e1 := HPK.out
            have e2 := placeOf_is (k := k + 2) HB3.out.cell
            rw [e1, e2]
            omega
        · have h92 : ¬ (u.toNat : Int) = 92 := fun h => h2 (UInt8.toNat_inj.1 (by show u.toNat = 92; omega))
          have h92b : ((u.toNat : Int) == 92) = false := by simpa using h92
          have HC2 : Hid (CutI a T f (k + 1)) := HC.out.next hu h1 h2
          clear hu h1 h2
          go_wp2_with fail
          go_roundw
          case rel => exact ⟨k + 1, HC2.out, HB2.out, HK2.out⟩
          case measure =>
            have e1 := HPK.out
            have e2 := placeOf_is (k := k + 1) HB2.out.cell
            rw [e1, e2]
            omega
    · have hge : ¬ (k : Int) < (L : Int) := by omega
      have HN := Lib.hid (HC.out.none (by rw [HL.out]; omega))
      have hsl := str_from T f (by rw [HL.out]; exact hf)
      clear HPK
      go_wp2_with fail
      go_ret2
      refine ⟨by rw [HN.out]; rfl, k, HB.out, fun r hr => ?_, HKR.out⟩
      rw [HN.out] at hr
      cases hr

end Go.Proofs.YtmgkejgmkfeccaaDoor
/- dn: cutter; valueOf's closure; walked. -/
namespace Go.Proofs.YtmgkejgmkfeccaaDoor
open Go.RowKit Go.Shelf
set_option linter.unusedVariables false
set_option linter.unusedSimpArgs false
set_option maxRecDepth 100000

theorem two_news {w : World} {t1 t2 : TypeId} {v1 v2 : Value} : Box1 ((w.alloc (.cells #[v1] t1)).alloc (.cells #[v2] t2)) w.heap.size t1 v1 ∧ Box1 ((w.alloc (.cells #[v1] t1)).alloc (.cells #[v2] t2)) (w.heap.size + 1) t2 v2 := by
  have h1 : (w.alloc (.cells #[v1] t1)).heap[w.heap.size]? = some (.cells #[v1] t1 (0, 0)) := heap_new8 w _
  have h2 : ((w.alloc (.cells #[v1] t1)).alloc (.cells #[v2] t2)).heap[(w.alloc (.cells #[v1] t1)).heap.size]? = some (.cells #[v2] t2 (0, 0)) := heap_new8 _ _
  refine ⟨blk_keep h1 ((Keeps.refl [] _).alloc _) (by simp), ?_⟩
  rw [show (w.alloc (.cells #[v1] t1)).heap.size = w.heap.size + 1 by simp only [World.alloc, Array.size_push]] at h2
  exact h2

theorem cutter_is (T : List UInt8) (w : World) : Calls Tryd.prog 38 #[.string ⟨T.toArray⟩] w fun e w' => ∃ p g, e = .returned (.func (.func 68) #[] #[.pointer (some ⟨p, 0, none⟩), .pointer (some ⟨g, 0, none⟩)]) ∧ Box1 w' p 3 (.int .i64 ((0 : Nat) : Int)) ∧ Box1 w' g 9 (.string ⟨T.toArray⟩) ∧ g ≠ p ∧ w.heap.size ≤ p ∧ w.heap.size ≤ g ∧ Keeps [] w w' := by
  have H2 := Lib.hid (two_news (w := w) (t1 := 9) (t2 := 3) (v1 := .string ⟨T.toArray⟩) (v2 := .int .i64 ((0 : Nat) : Int)))
  have HK : Hid (Keeps [] w ((w.alloc (.cells #[.string ⟨T.toArray⟩] 9)).alloc (.cells #[.int .i64 ((0 : Nat) : Int)] 3))) := ((Keeps.refl [] w).alloc _).alloc _
  go_enter Tryd.func38, Tryd.ntmps38
  go_wp2_with fail
  go_ret
  exact ⟨w.heap.size + 1, w.heap.size, rfl, H2.out.2, H2.out.1, by omega, by omega, Nat.le_refl _, HK.out⟩

theorem next_byte (T : List UInt8) (p g k : Nat) (w : World) (hl : T.length ≤ 9000000000000000000) (hp : Box1 w p 3 (.int .i64 (k : Int))) (hg : Box1 w g 9 (.string ⟨T.toArray⟩)) (hpg : g ≠ p) (u : UInt8) (hu : T[k]? = some u) :
    Calls Tryd.prog 69 #[.pointer (some ⟨p, 0, none⟩), .pointer (some ⟨g, 0, none⟩)] w fun e w' => e = .returned (.int .u8 (u.toNat : Int)) ∧ Box1 w' p 3 (.int .i64 ((k + 1 : Nat) : Int)) ∧ Keeps [p] w w' := by
  have hk := (List.getElem?_eq_some_iff.1 hu).1
  have hix := str_at T k u hu
  have hul : u.toNat < 256 := u.toNat_lt
  have HB2 := Lib.hid (hp.set (.int .i64 ((k : Int) + 1)))
  have HK2 := Lib.hid ((Keeps.refl [p] w).setCell (p := ⟨p, 0, none⟩) (.inl (by simp)) (.int .i64 ((k : Int) + 1)))
  have c0 := hp.cell
  have z0 := hp.free
  have c1 := hg.cell
  have c2 := (hg.keep HK2.out (by simpa using hpg)).cell
  have hlt : (k : Int) < (T.length : Int) := by omega
  have hwr : wrap64 ((k : Int) + 1) = (k : Int) + 1 := by unfold wrap64; omega
  have hwk : wrap64 (k : Int) = (k : Int) := by unfold wrap64; omega
  have HM := Lib.hid (fun X => must_is true X)
  obtain ⟨L, hL⟩ : ∃ L, T.length = L := ⟨_, rfl⟩
  rw [hL] at hlt
  have hTL : (⟨T.toArray⟩ : ByteArray).size = L := hL
  clear hu hp hg hpg hL hk hl
  go_enter Tryd.func69, Tryd.ntmps69
  go_wp2_with fail
  refine (HM.out _).mono ?_
  rintro e w1 ⟨h, rfl⟩
  rcases h with ⟨_, rfl⟩ | ⟨h, _⟩
  · go_wp2_with fail
    go_ret
    exact ⟨rfl, HB2.out, HK2.out⟩
  · cases h

theorem next_none (T : List UInt8) (p g k : Nat) (w : World) (hp : Box1 w p 3 (.int .i64 (k : Int))) (hg : Box1 w g 9 (.string ⟨T.toArray⟩)) (hk : T.length ≤ k) :
    Calls Tryd.prog 69 #[.pointer (some ⟨p, 0, none⟩), .pointer (some ⟨g, 0, none⟩)] w fun e w' => e = gaveUp 160 ∧ w = w' := by
  have c0 := hp.cell
  have z0 := hp.free
  have c1 := hg.cell
  have hlt : ¬ (k : Int) < (T.length : Int) := by omega
  have HM := Lib.hid (fun X => must_is false X)
  obtain ⟨L, hL⟩ : ∃ L, T.length = L := ⟨_, rfl⟩
  rw [hL] at hlt
  have hTL : (⟨T.toArray⟩ : ByteArray).size = L := hL
  clear hp hg hL hk
  go_enter Tryd.func69, Tryd.ntmps69
  go_wp2_with fail
  refine (HM.out _).mono ?_
  rintro e w1 ⟨h, rfl⟩
  rcases h with ⟨h, _⟩ | ⟨_, rfl⟩
  · cases h
  · go_wp2_with fail
    first
      | exact ⟨rfl, rfl⟩
      | exact ⟨rfl, rfl, rfl⟩

end Go.Proofs.YtmgkejgmkfeccaaDoor
