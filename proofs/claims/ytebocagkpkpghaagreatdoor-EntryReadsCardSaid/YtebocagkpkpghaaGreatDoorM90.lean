/- Texts of one proof, laid together: X4 X5. -/
import Derived.Test.YtebocagkpkpghaaGreatDoorM89
/- entry: the document's with; walked. -/
namespace Go.Proofs.YtebocagkpkpghaaGreatDoor
open Go.RowKit Go.Shelf
set_option linter.unusedVariables false
set_option linter.unusedSimpArgs false
set_option maxRecDepth 100000

theorem less_is : ∀ a b : Txt, Op.bytesLess a b = decide (a < b)
  | [], [] => by rw [Op.bytesLess, decide_eq_false (tx_irr _)]
  | a :: r, [] => by rw [Op.bytesLess, decide_eq_false (List.not_lt.2 (tx_le (List.nil_lt_cons a r)))]
  | [], b :: s => by rw [Op.bytesLess, decide_eq_true (List.nil_lt_cons b s)]
  | a :: r, b :: s => by
    rw [Op.bytesLess, less_is r s, Bool.eq_iff_iff]
    simp [List.cons_lt_cons_iff]
theorem tx_less (s t : Txt) (r : Bool) (h : decide (s < t) = r) : Op.bytesLess (⟨s.toArray⟩ : ByteArray).toList (⟨t.toArray⟩ : ByteArray).toList = r := by
  rw [← h, ByteArray.toList_eq, ByteArray.toList_eq]
  exact less_is s t
theorem run_geq {P : Program} (t : TypeId) (x s : Txt) (r : Bool) (h : decide (x < s) = r) (W : World) : (binOp .geq t (.string ⟨x.toArray⟩) (.string ⟨s.toArray⟩)).run P W = .ok (.bool (!r)) W := by
  have h1 := tx_less x s r h
  simp only [binOp, Op.stringOp, h1]
  rfl
theorem le_not (s t : Txt) : decide (s ≤ t) = !decide (t < s) := by
  by_cases h : s ≤ t
  · rw [decide_eq_true h, decide_eq_false (List.not_lt.2 h)]; rfl
  · rw [decide_eq_false h, decide_eq_true (List.not_le.1 h)]; rfl
/-- A row of texts under way. -/
structure OutS (w wr : World) (A : Option Addr) (m c : Nat) (xs : List Txt) : Prop where
  row : wr.ownsRow w.heap.size 9 1 (.slice A m c) m (xs.map tv)
  len : xs.length = m
  txt : ∀ s ∈ xs, s.length ≤ 9223372036854775807
  keep : Keeps [] w wr
theorem OutS.nil (w : World) : OutS w w none 0 0 [] := ⟨World.ownsRow_nil _ _ _ _, rfl, by simp, Keeps.refl _ _⟩
theorem OutS.on {w wr W : World} {A : Option Addr} {m c : Nat} {xs : List Txt} (h : OutS w wr A m c xs) (hk : Keeps [] wr W) : OutS w W A m c xs :=
  ⟨own_keep h.row hk (by simp), h.len, h.txt, h.keep.trans' hk⟩
theorem OutS.snoc {w wr W w6 : World} {A A6 : Option Addr} {m c c6 : Nat} {xs : List Txt} {s : Txt} (h : OutS w wr A m c xs) (hk : Keeps [] wr W) (hg : W.grownBy w6 (.slice A m c : Value).ownBlock) (ho : w6.ownsRow w.heap.size 9 1 (.slice A6 (m + 1) c6) (m + 1) (xs.map tv ++ [tv s])) (hs : s.length ≤ 9223372036854775807) : OutS w w6 A6 (m + 1) c6 (xs ++ [s]) :=
  ⟨by rw [List.map_append]; exact ho, by rw [List.length_append, h.len]; rfl, fun x hx => by
    rcases List.mem_append.1 hx with hx | hx
    · exact h.txt x hx
    · rw [List.mem_singleton.1 hx]; exact hs, keeps_own7 (own_keep h.row hk (by simp)) (h.keep.trans' hk) hg⟩
theorem OutS.strs {w wr : World} {A : Option Addr} {m c : Nat} {xs : List Txt} (h : OutS w wr A m c xs) : StrsIn wr A m xs := StrsIn.of_own h.row h.len h.txt
theorem preW_take {l : List Txt} {j : Nat} {x : Txt} (s : Txt) (h : l[j]? = some x) : preW (l.take (j + 1)) s = stepW s (preW (l.take j) s) x := by
  rw [List.take_add_one, h]
  exact preW_snoc _ _ _
/-- What a call answers that tells texts: in memory that may be its own. -/
def StrQ (xs : List Txt) (w : World) (e : Ending) (w' : World) : Prop := ∃ A c, e = .returned (.slice A xs.length c) ∧ StrsIn w' A xs.length xs ∧ xs.length ≤ c ∧ c ≤ 9223372036854775807 ∧ Keeps [] w w'
theorem OutS.done {w wr : World} {A : Option Addr} {m c : Nat} {xs : List Txt} (h : OutS w wr A m c xs) : StrQ xs w (.returned (.slice A m c)) wr := by
  obtain ⟨h1, h2⟩ := own_caps h.row
  refine ⟨A, c, by rw [h.len], ?_, by rw [h.len]; exact h1, h2, h.keep⟩
  rw [h.len]
  exact h.strs
set_option maxHeartbeats 8000000 in
theorem rwith_is (A : Option Addr) (n c : Nat) (l : List Txt) (s : Txt) (w : World) (h : StrsIn w A n l) (hs : s.length ≤ 9223372036854775807) (hn : n ≤ 100000) :
    Calls Tryz.prog 46 #[.slice A n c, tv s] w (StrQ (withR l s) w) := by
  obtain ⟨iu, hiu, hzu0, hzu1, hzu2⟩ := info_parts str_info7
  have HD := Lib.hid h
  have HSL := Lib.hid hs
  have HP : Hid (∀ j, j ≤ n → (preW (l.take j) s).1.length ≤ j + 1) := fun j hj => by
    have h1 := preW_len s (l.take j)
    rw [List.length_take, h.1, Nat.min_eq_left hj] at h1
    omega
  unfold tv
  clear h hs
  go_enter Tryz.func46, Tryz.ntmps46
  go_wp2_with fail
  go_loopw [5, 6, 7] (fun d f i wr => ∃ (A' : Option Addr) (c' m j : Nat), d = .slice A' m c' ∧ f = .bool (preW (l.take j) s).2 ∧ i = .int .i64 (j : Int) ∧ j ≤ n ∧ Hid (OutS w wr A' m c' (preW (l.take j) s).1)) (fun _ _ i _ => n - (intOf i).toNat)
  case atStart => exact ⟨none, 0, 0, 0, rfl, rfl, rfl, Nat.zero_le _, OutS.nil w⟩
  case round =>
    obtain ⟨A', c', m, j, rfl, rfl, rfl, hj, HO⟩ := hrel
    have hm5 : m ≤ j + 1 := by have h9 := HP.out j hj; rw [HO.out.len] at h9; exact h9
    by_cases hlt : j < n
    · obtain ⟨hl, hp, hc9⟩ := HD.out
      obtain ⟨b, o, hA9, hcc⟩ := hc9 (by omega)
      clear hc9
      subst hA9
      obtain ⟨x, hu⟩ : ∃ a, l[j]? = some a := ⟨_, List.getElem?_eq_getElem (by omega)⟩
      have c0w := hcc j x hu
      have HXL : Hid (x.length ≤ 9223372036854775807) := hp x (List.mem_of_getElem? hu)
      have HCX : Hid (∀ X, Keeps [] w X → X.cell? ⟨b, o + j, none⟩ = some (.string ⟨x.toArray⟩)) := fun X hX => (hX.cell (lt_of_cell c0w) (by simp)).trans c0w
      have c0 := HCX.out wr HO.out.keep
      have HT := Lib.hid (preW_take s hu)
      generalize preW (l.take j) s = p at HO HT ⊢
      obtain ⟨out, done⟩ := p
      dsimp only at HO
      have hji : (j : Int) < (n : Int) := by omega
      have hj0 : (0 : Int) ≤ (j : Int) := by omega
      clear hcc hu hp hl c0w
      obtain ⟨r, hr⟩ : ∃ r, decide (x < s) = r := ⟨_, rfl⟩
      obtain ⟨q, hq⟩ : ∃ q, (x == s) = q := ⟨_, rfl⟩
      have hle : decide (s ≤ x) = !r := by rw [le_not, hr]
      have hge := fun W : World => run_geq (P := Tryz.prog) 9 x s r hr W
      obtain ⟨hs1, hs2, hs3⟩ := tx_beq x s q hq
      unfold stepW at HT
      dsimp only at HT
      rw [hle, hq] at HT
      dsimp only
      cases done <;> cases r <;> cases q
      · have HT2 : Hid (preW (l.take (j + 1)) s = ((out ++ [s]) ++ [x], true)) := by show _ = _; rw [HT.out]; simp
        clear HT hr hle
        go_wp2_with (first | (at_builtin; refine wpList_append_opt rfl (.tmp 24) (.tmp 26) 40 rfl w.heap.size 9 iu _ 1 16 Tryz.underlying40 hiu hzu0 hzu1 hzu2 rfl (by decide) (.slice A' m c') m (out.map tv) rfl (own_keep HO.out.row ((Keeps.refl [] wr).alloc _) (by simp)) (some ⟨wr.heap.size, 0, none⟩) 1 1 [tv s] rfl rfl (src_one7 wr s _) (by intro u hu; simp at hu; subst hu; rfl) (by unfold maxLen; omega) (by omega) (by have h9 := HO.out.keep.size; simp; omega) ?_; intro v5 w5 ho hg5 hs5; obtain ⟨A5, c5, hv5⟩ := own_slice ho; subst hv5; have HX5 := Lib.hid (HO.out.snoc ((Keeps.refl [] wr).alloc _) hg5 ho HSL.out); have c0_5 := HCX.out w5 HX5.out.keep; clear ho hg5 hs5) | (at_builtin; refine wpList_append_opt rfl (.tmp 34) (.tmp 39) 40 rfl w.heap.size 9 iu _ 1 16 Tryz.underlying40 hiu hzu0 hzu1 hzu2 rfl (by decide) (.slice A5 (m + 1) c5) (m + 1) ((out ++ [s]).map tv) rfl (own_keep HX5.out.row ((Keeps.refl [] w5).alloc _) (by simp)) (some ⟨w5.heap.size, 0, none⟩) 1 1 [tv x] rfl rfl (src_one7 w5 x _) (by intro u hu; simp at hu; subst hu; rfl) (by unfold maxLen; omega) (by omega) (by have h9 := HX5.out.keep.size; simp; omega) ?_; intro v6 w6 ho hg6 hs6; obtain ⟨A6, c6, hv6⟩ := own_slice ho; subst hv6; have HX6 := Lib.hid (HX5.out.snoc ((Keeps.refl [] w5).alloc _) hg6 ho HXL.out); have c0_6 := HCX.out w6 HX6.out.keep; clear ho hg6 hs6))
        go_roundw
        case rel => exact ⟨A6, c6, (m + 1 + 1), j + 1, rfl, by rw [HT2.out], by go_num, by omega, by show OutS _ _ _ _ _ _; rw [HT2.out]; exact HX6.out⟩
        case measure => simp [intOf]; omega
      · have HT2 : Hid (preW (l.take (j + 1)) s = ((out ++ [s]), true)) := by show _ = _; rw [HT.out]; simp
        clear HT hr hle
        go_wp2_with (at_builtin; refine wpList_append_opt rfl (.tmp 24) (.tmp 26) 40 rfl w.heap.size 9 iu _ 1 16 Tryz.underlying40 hiu hzu0 hzu1 hzu2 rfl (by decide) (.slice A' m c') m (out.map tv) rfl (own_keep HO.out.row ((Keeps.refl [] wr).alloc _) (by simp)) (some ⟨wr.heap.size, 0, none⟩) 1 1 [tv s] rfl rfl (src_one7 wr s _) (by intro u hu; simp at hu; subst hu; rfl) (by unfold maxLen; omega) (by omega) (by have h9 := HO.out.keep.size; simp; omega) ?_; intro v5 w5 ho hg5 hs5; obtain ⟨A5, c5, hv5⟩ := own_slice ho; subst hv5; have HX5 := Lib.hid (HO.out.snoc ((Keeps.refl [] wr).alloc _) hg5 ho HSL.out); have c0_5 := HCX.out w5 HX5.out.keep; clear ho hg5 hs5)
        go_roundw
        case rel => exact ⟨A5, c5, (m + 1), j + 1, rfl, by rw [HT2.out], by go_num, by omega, by show OutS _ _ _ _ _ _; rw [HT2.out]; exact HX5.out⟩
        case measure => simp [intOf]; omega
      · have HT2 : Hid (preW (l.take (j + 1)) s = (out ++ [x], false)) := by show _ = _; rw [HT.out]; simp
        clear HT hr hle
        go_wp2_with (at_builtin; refine wpList_append_opt rfl (.tmp 34) (.tmp 39) 40 rfl w.heap.size 9 iu _ 1 16 Tryz.underlying40 hiu hzu0 hzu1 hzu2 rfl (by decide) (.slice A' m c') m (out.map tv) rfl (own_keep HO.out.row ((Keeps.refl [] wr).alloc _) (by simp)) (some ⟨wr.heap.size, 0, none⟩) 1 1 [tv x] rfl rfl (src_one7 wr x _) (by intro u hu; simp at hu; subst hu; rfl) (by unfold maxLen; omega) (by omega) (by have h9 := HO.out.keep.size; simp; omega) ?_; intro v5 w5 ho hg5 hs5; obtain ⟨A5, c5, hv5⟩ := own_slice ho; subst hv5; have HX5 := Lib.hid (HO.out.snoc ((Keeps.refl [] wr).alloc _) hg5 ho HXL.out); have c0_5 := HCX.out w5 HX5.out.keep; clear ho hg5 hs5)
        go_roundw
        case rel => exact ⟨A5, c5, (m + 1), j + 1, rfl, by rw [HT2.out], by go_num, by omega, by show OutS _ _ _ _ _ _; rw [HT2.out]; exact HX5.out⟩
        case measure => simp [intOf]; omega
      · exact absurd hr (by have : x = s := by simpa using hq
                            rw [this]; simp [tx_irr])
      · have HT2 : Hid (preW (l.take (j + 1)) s = (out ++ [x], true)) := by show _ = _; rw [HT.out]; simp
        clear HT hr hle
        go_wp2_with (at_builtin; refine wpList_append_opt rfl (.tmp 34) (.tmp 39) 40 rfl w.heap.size 9 iu _ 1 16 Tryz.underlying40 hiu hzu0 hzu1 hzu2 rfl (by decide) (.slice A' m c') m (out.map tv) rfl (own_keep HO.out.row ((Keeps.refl [] wr).alloc _) (by simp)) (some ⟨wr.heap.size, 0, none⟩) 1 1 [tv x] rfl rfl (src_one7 wr x _) (by intro u hu; simp at hu; subst hu; rfl) (by unfold maxLen; omega) (by omega) (by have h9 := HO.out.keep.size; simp; omega) ?_; intro v5 w5 ho hg5 hs5; obtain ⟨A5, c5, hv5⟩ := own_slice ho; subst hv5; have HX5 := Lib.hid (HO.out.snoc ((Keeps.refl [] wr).alloc _) hg5 ho HXL.out); have c0_5 := HCX.out w5 HX5.out.keep; clear ho hg5 hs5)
        go_roundw
        case rel => exact ⟨A5, c5, (m + 1), j + 1, rfl, by rw [HT2.out], by go_num, by omega, by show OutS _ _ _ _ _ _; rw [HT2.out]; exact HX5.out⟩
        case measure => simp [intOf]; omega
      · have HT2 : Hid (preW (l.take (j + 1)) s = (out, true)) := by show _ = _; rw [HT.out]; simp
        clear HT hr hle
        go_wp2_with fail
        go_roundw
        case rel => exact ⟨A', c', m, j + 1, rfl, by rw [HT2.out], by go_num, by omega, by show OutS _ _ _ _ _ _; rw [HT2.out]; exact HO.out⟩
        case measure => simp [intOf]; omega
      · have HT2 : Hid (preW (l.take (j + 1)) s = (out ++ [x], true)) := by show _ = _; rw [HT.out]; simp
        clear HT hr hle
        go_wp2_with (at_builtin; refine wpList_append_opt rfl (.tmp 34) (.tmp 39) 40 rfl w.heap.size 9 iu _ 1 16 Tryz.underlying40 hiu hzu0 hzu1 hzu2 rfl (by decide) (.slice A' m c') m (out.map tv) rfl (own_keep HO.out.row ((Keeps.refl [] wr).alloc _) (by simp)) (some ⟨wr.heap.size, 0, none⟩) 1 1 [tv x] rfl rfl (src_one7 wr x _) (by intro u hu; simp at hu; subst hu; rfl) (by unfold maxLen; omega) (by omega) (by have h9 := HO.out.keep.size; simp; omega) ?_; intro v5 w5 ho hg5 hs5; obtain ⟨A5, c5, hv5⟩ := own_slice ho; subst hv5; have HX5 := Lib.hid (HO.out.snoc ((Keeps.refl [] wr).alloc _) hg5 ho HXL.out); have c0_5 := HCX.out w5 HX5.out.keep; clear ho hg5 hs5)
        go_roundw
        case rel => exact ⟨A5, c5, (m + 1), j + 1, rfl, by rw [HT2.out], by go_num, by omega, by show OutS _ _ _ _ _ _; rw [HT2.out]; exact HX5.out⟩
        case measure => simp [intOf]; omega
      · exact absurd hr (by have : x = s := by simpa using hq
                            rw [this]; simp [tx_irr])
    · obtain rfl : j = n := by omega
      have h9 := HO.out
      rw [List.take_of_length_le (by rw [HD.out.1]; exact Nat.le_refl _)] at h9 ⊢
      have HW : Hid (withR l s = (preW l s).1 ++ (if (preW l s).2 = true then [] else [s])) := rfl
      generalize preW l s = p at h9 HW ⊢
      obtain ⟨out, done⟩ := p
      dsimp only at h9
      have HO9 := Lib.hid h9
      clear h9
      dsimp only
      cases done
      · have HW2 : Hid (withR l s = out ++ [s]) := HW.out
        clear HW
        go_wp2_with (at_builtin; refine wpList_append_opt rfl (.tmp 43) (.tmp 45) 40 rfl w.heap.size 9 iu _ 1 16 Tryz.underlying40 hiu hzu0 hzu1 hzu2 rfl (by decide) (.slice A' m c') m (out.map tv) rfl (own_keep HO9.out.row ((Keeps.refl [] wr).alloc _) (by simp)) (some ⟨wr.heap.size, 0, none⟩) 1 1 [tv s] rfl rfl (src_one7 wr s _) (by intro u hu; simp at hu; subst hu; rfl) (by unfold maxLen; omega) (by omega) (by have h9 := HO9.out.keep.size; simp; omega) ?_; intro v5 w5 ho hg5 hs5; obtain ⟨A5, c5, hv5⟩ := own_slice ho; subst hv5; have HX5 := Lib.hid (HO9.out.snoc ((Keeps.refl [] wr).alloc _) hg5 ho HSL.out); have c0_5 := trivial; clear ho hg5 hs5)
        go_ret
        rw [HW2.out]
        exact HX5.out.done
      · have HW2 : Hid (withR l s = out) := by show _ = _; rw [HW.out]; simp
        clear HW
        go_wp2_with fail
        go_ret
        rw [HW2.out]
        exact HO9.out.done
end Go.Proofs.YtebocagkpkpghaaGreatDoor
/- entry: the document's set; walked. -/
namespace Go.Proofs.YtebocagkpkpghaaGreatDoor
open Go.RowKit Go.Shelf
set_option linter.unusedVariables false
set_option linter.unusedSimpArgs false
set_option maxRecDepth 100000

/-- An entry under way. -/
structure SetS (w wr : World) (A : Option Addr) (j c : Nat) (L : List At7) (e : List Att) : Prop where
  says : ents L = e
  len : L.length = j
  row : wr.ownsRow w.heap.size 59 2 (.slice A j c) j (atCells L)
  fits : ∀ a ∈ L, a.fits w
  keep : Keeps [] w wr
theorem SetS.nil (w : World) : SetS w w none 0 0 [] [] := ⟨rfl, rfl, World.ownsRow_nil _ _ _ _, by simp, Keeps.refl _ _⟩
theorem SetS.snoc {w wr W w6 : World} {A A6 : Option Addr} {m c c6 : Nat} {L : List At7} {e : List Att} (h : SetS w wr A m c L e) (a : At7) (hk : Keeps [] wr W) (hg : W.grownBy w6 (.slice A m c : Value).ownBlock) (ho : w6.ownsRow w.heap.size 59 2 (.slice A6 (m + 1) c6) (m + 1) (atCells L ++ [tv a.name, a.val])) (hs : a.fits w) : SetS w w6 A6 (m + 1) c6 (L ++ [a]) (e ++ [a.att]) :=
  ⟨by rw [← h.says]; simp [ents], by rw [List.length_append, h.len]; rfl, by rw [atCells_snoc]; exact ho, fun x hx => by
    rcases List.mem_append.1 hx with hx | hx
    · exact h.fits x hx
    · rw [List.mem_singleton.1 hx]; exact hs, keeps_own7 (own_keep h.row hk (by simp)) (h.keep.trans' hk) hg⟩
/-- What a call answers that tells an entry: it, and no error. -/
def EnsQ (E : List Att) (w : World) (e : Ending) (w' : World) : Prop := ∃ A n c, e = .returned (.slice A n c) ∧ EntQ E w A n c w' ∧ Keeps [] w w'
theorem SetS.done {w wr : World} {A : Option Addr} {m c : Nat} {L : List At7} {e : List Att} (h : SetS w wr A m c L e) : EnsQ e w (.returned (.slice A m c)) wr := by
  obtain ⟨h1, h2⟩ := own_caps h.row
  exact ⟨A, m, c, rfl, ⟨L, h.says, EntIn.of_own h.row h.len (fun a ha => (h.fits a ha).grow h.keep), h1, h2, fun a ha => (h.fits a ha).2.2.2.1⟩, h.keep⟩
theorem preS_take {e : List Att} {j : Nat} {a : Att} (n : Txt) (l : List Txt) (h : e[j]? = some a) : preS (e.take (j + 1)) n l = stepS n l (preS (e.take j) n l) a := by
  rw [List.take_add_one, h]
  exact preS_snoc _ _ _ _
set_option maxHeartbeats 8000000 in
theorem rset_is (A : Option Addr) (n c : Nat) (l : List At7) (z : Txt) (B : Option Addr) (m d : Nat) (vs : List Txt) (w : World) (h : EntIn w A n l) (hz : At7.fits w ⟨z, B, m, d, vs⟩) (hn : n ≤ 100000) :
    Calls Tryz.prog 47 #[.slice A n c, tv z, .slice B m d] w (EnsQ (setR (ents l) z vs) w) := by
  obtain ⟨iu, hiu, hzu0, hzu1, hzu2⟩ := info_parts attr_info7
  have HD := Lib.hid h
  have HZF := Lib.hid hz
  have HEL : Hid ((ents l).length = n) := by show _ = _; rw [ents_len, h.1]
  have HP : Hid (∀ j, j ≤ n → (preS ((ents l).take j) z vs).1.length ≤ j + 1) := fun j hj => by
    have h1 := preS_len z vs ((ents l).take j)
    rw [List.length_take, ents_len, h.1, Nat.min_eq_left hj] at h1
    omega
  obtain ⟨f0, hf0⟩ : ∃ f0, vs.isEmpty = f0 := ⟨_, rfl⟩
  have hvl : vs.length = m := hz.2.2.2.1
  have hb0 : ((m : Int) == 0) = f0 := by
    rw [← hf0, ← hvl]
    cases vs with
    | nil => rfl
    | cons a r => simp; omega
  have hd0 : decide ((m : Int) = 0) = f0 := by rw [← hb0]; rfl
  have HF0 := Lib.hid hf0
  have hm63 : m ≤ 9223372036854775807 := Nat.le_trans hz.2.1 hz.2.2.1
  clear h hz hf0 hvl
  unfold tv
  go_enter Tryz.func47, Tryz.ntmps47
  go_wp2_with fail
  go_loopw [7, 8, 9] (fun x f i wr => ∃ (A' : Option Addr) (c' k j : Nat) (L : List At7), x = .slice A' k c' ∧ f = .bool (preS ((ents l).take j) z vs).2 ∧ i = .int .i64 (j : Int) ∧ j ≤ n ∧ Hid (SetS w wr A' k c' L (preS ((ents l).take j) z vs).1)) (fun _ _ i _ => n - (intOf i).toNat)
  case atStart => exact ⟨none, 0, 0, 0, [], rfl, by first | (show _ = Value.bool vs.isEmpty; rw [HF0.out]; done) | (show _ = Value.bool vs.isEmpty; rw [HF0.out]; simp [hd0, hb0]; done), rfl, Nat.zero_le _, SetS.nil w⟩
  case round =>
    obtain ⟨A', c', k, j, L, rfl, rfl, rfl, hj, HO⟩ := hrel
    have hm5 : k ≤ j + 1 := by
      have h9 := HP.out j hj
      rw [← HO.out.says, ents_len, HO.out.len] at h9
      exact h9
    clear hb0 hd0
    by_cases hlt : j < n
    · obtain ⟨hl, hp, hc9⟩ := HD.out
      obtain ⟨b, o, hA9, hcc⟩ := hc9 (by omega)
      clear hc9
      subst hA9
      obtain ⟨x, hu⟩ : ∃ a, l[j]? = some a := ⟨_, List.getElem?_eq_getElem (by omega)⟩
      obtain ⟨c0w, c1w⟩ := hcc j x hu
      have HAF : Hid (x.fits w) := hp x (List.mem_of_getElem? hu)
      have HT := Lib.hid (preS_take z vs (ents_at hu))
      obtain ⟨nm, aA, an, ac, avs⟩ := x
      unfold At7.att at HT
      dsimp only at HT c0w c1w
      have HCX : Hid (∀ X, Keeps [] w X → X.cell? ⟨b, o + j * 2, none⟩ = some (.string ⟨nm.toArray⟩) ∧ X.cell? ⟨b, o + j * 2 + 1, none⟩ = some (.slice aA an ac)) := fun X hX => ⟨(hX.cell (lt_of_cell c0w) (by simp)).trans c0w, (hX.cell (lt_of_cell c1w) (by simp)).trans c1w⟩
      obtain ⟨c0, c1⟩ := HCX.out wr HO.out.keep
      generalize preS ((ents l).take j) z vs = p at HO HT ⊢
      obtain ⟨out, done⟩ := p
      dsimp only at HO
      have hji : (j : Int) < (n : Int) := by omega
      have hj0 : (0 : Int) ≤ (j : Int) := by omega
      clear hcc hu hp hl c0w c1w
      obtain ⟨r, hr⟩ : ∃ r, decide (nm < z) = r := ⟨_, rfl⟩
      obtain ⟨q, hq⟩ : ∃ q, (nm == z) = q := ⟨_, rfl⟩
      have hle : decide (z ≤ nm) = !r := by rw [le_not, hr]
      have hge := fun W : World => run_geq (P := Tryz.prog) 9 nm z r hr W
      obtain ⟨hs1, hs2, hs3⟩ := tx_beq nm z q hq
      unfold stepS at HT
      dsimp only at HT
      rw [hle, hq] at HT
      dsimp only
      cases done <;> cases r <;> cases q
      · have HT2 : Hid (preS ((ents l).take (j + 1)) z vs = ((out ++ [(z, vs)]) ++ [(nm, avs)], true)) := by show _ = _; rw [HT.out]; simp
        clear HT hr hle
        go_wp2_with (first | (at_builtin; refine wpList_append_opt rfl (.tmp 30) (.tmp 34) 23 rfl w.heap.size 59 iu _ 2 40 Tryz.underlying23 hiu hzu0 hzu1 hzu2 rfl (by decide) (.slice A' k c') k (atCells L) rfl (own_keep HO.out.row ((Keeps.refl [] wr).alloc _) (by simp)) (some ⟨wr.heap.size, 0, none⟩) 1 1 [tv z, .slice B m d] rfl rfl (src_at7 wr ⟨z, B, m, d, vs⟩ _) (by intro u hu; simp at hu; rcases hu with rfl | rfl <;> rfl) (by unfold maxLen; omega) (by omega) (by have h9 := HO.out.keep.size; simp; omega) ?_; intro v5 w5 ho hg5 hs5; obtain ⟨A5, c5, hv5⟩ := own_slice ho; subst hv5; have HX5 := Lib.hid (HO.out.snoc ⟨z, B, m, d, vs⟩ ((Keeps.refl [] wr).alloc _) hg5 ho HZF.out); obtain ⟨d0_5, d1_5⟩ := HCX.out w5 HX5.out.keep; clear ho hg5 hs5) | (at_builtin; refine wpList_append_opt rfl (.tmp 43) (.tmp 48) 23 rfl w.heap.size 59 iu _ 2 40 Tryz.underlying23 hiu hzu0 hzu1 hzu2 rfl (by decide) (.slice A5 (k + 1) c5) (k + 1) (atCells (L ++ [⟨z, B, m, d, vs⟩])) rfl (own_keep HX5.out.row ((Keeps.refl [] w5).alloc _) (by simp)) (some ⟨w5.heap.size, 0, none⟩) 1 1 [tv nm, .slice aA an ac] rfl rfl (src_at7 w5 ⟨nm, aA, an, ac, avs⟩ _) (by intro u hu; simp at hu; rcases hu with rfl | rfl <;> rfl) (by unfold maxLen; omega) (by omega) (by have h9 := HX5.out.keep.size; simp; omega) ?_; intro v6 w6 ho hg6 hs6; obtain ⟨A6, c6, hv6⟩ := own_slice ho; subst hv6; have HX6 := Lib.hid (HX5.out.snoc ⟨nm, aA, an, ac, avs⟩ ((Keeps.refl [] w5).alloc _) hg6 ho HAF.out); obtain ⟨d0_6, d1_6⟩ := HCX.out w6 HX6.out.keep; clear ho hg6 hs6))
        go_roundw
        case rel => exact ⟨A6, c6, (k + 1 + 1), j + 1, _, rfl, by rw [HT2.out], by go_num, by omega, by show SetS _ _ _ _ _ _ _; rw [HT2.out]; exact HX6.out⟩
        case measure => simp [intOf]; omega
      · have HT2 : Hid (preS ((ents l).take (j + 1)) z vs = ((out ++ [(z, vs)]), true)) := by show _ = _; rw [HT.out]; simp
        clear HT hr hle
        go_wp2_with (at_builtin; refine wpList_append_opt rfl (.tmp 30) (.tmp 34) 23 rfl w.heap.size 59 iu _ 2 40 Tryz.underlying23 hiu hzu0 hzu1 hzu2 rfl (by decide) (.slice A' k c') k (atCells L) rfl (own_keep HO.out.row ((Keeps.refl [] wr).alloc _) (by simp)) (some ⟨wr.heap.size, 0, none⟩) 1 1 [tv z, .slice B m d] rfl rfl (src_at7 wr ⟨z, B, m, d, vs⟩ _) (by intro u hu; simp at hu; rcases hu with rfl | rfl <;> rfl) (by unfold maxLen; omega) (by omega) (by have h9 := HO.out.keep.size; simp; omega) ?_; intro v5 w5 ho hg5 hs5; obtain ⟨A5, c5, hv5⟩ := own_slice ho; subst hv5; have HX5 := Lib.hid (HO.out.snoc ⟨z, B, m, d, vs⟩ ((Keeps.refl [] wr).alloc _) hg5 ho HZF.out); obtain ⟨d0_5, d1_5⟩ := HCX.out w5 HX5.out.keep; clear ho hg5 hs5)
        go_roundw
        case rel => exact ⟨A5, c5, (k + 1), j + 1, _, rfl, by rw [HT2.out], by go_num, by omega, by show SetS _ _ _ _ _ _ _; rw [HT2.out]; exact HX5.out⟩
        case measure => simp [intOf]; omega
      · have HT2 : Hid (preS ((ents l).take (j + 1)) z vs = (out ++ [(nm, avs)], false)) := by show _ = _; rw [HT.out]; simp
        clear HT hr hle
        go_wp2_with (at_builtin; refine wpList_append_opt rfl (.tmp 43) (.tmp 48) 23 rfl w.heap.size 59 iu _ 2 40 Tryz.underlying23 hiu hzu0 hzu1 hzu2 rfl (by decide) (.slice A' k c') k (atCells L) rfl (own_keep HO.out.row ((Keeps.refl [] wr).alloc _) (by simp)) (some ⟨wr.heap.size, 0, none⟩) 1 1 [tv nm, .slice aA an ac] rfl rfl (src_at7 wr ⟨nm, aA, an, ac, avs⟩ _) (by intro u hu; simp at hu; rcases hu with rfl | rfl <;> rfl) (by unfold maxLen; omega) (by omega) (by have h9 := HO.out.keep.size; simp; omega) ?_; intro v5 w5 ho hg5 hs5; obtain ⟨A5, c5, hv5⟩ := own_slice ho; subst hv5; have HX5 := Lib.hid (HO.out.snoc ⟨nm, aA, an, ac, avs⟩ ((Keeps.refl [] wr).alloc _) hg5 ho HAF.out); obtain ⟨d0_5, d1_5⟩ := HCX.out w5 HX5.out.keep; clear ho hg5 hs5)
        go_roundw
        case rel => exact ⟨A5, c5, (k + 1), j + 1, _, rfl, by rw [HT2.out], by go_num, by omega, by show SetS _ _ _ _ _ _ _; rw [HT2.out]; exact HX5.out⟩
        case measure => simp [intOf]; omega
      · exact absurd hr (by have : nm = z := by simpa using hq
                            rw [this]; simp [tx_irr])
      · have HT2 : Hid (preS ((ents l).take (j + 1)) z vs = (out ++ [(nm, avs)], true)) := by show _ = _; rw [HT.out]; simp
        clear HT hr hle
        go_wp2_with (at_builtin; refine wpList_append_opt rfl (.tmp 43) (.tmp 48) 23 rfl w.heap.size 59 iu _ 2 40 Tryz.underlying23 hiu hzu0 hzu1 hzu2 rfl (by decide) (.slice A' k c') k (atCells L) rfl (own_keep HO.out.row ((Keeps.refl [] wr).alloc _) (by simp)) (some ⟨wr.heap.size, 0, none⟩) 1 1 [tv nm, .slice aA an ac] rfl rfl (src_at7 wr ⟨nm, aA, an, ac, avs⟩ _) (by intro u hu; simp at hu; rcases hu with rfl | rfl <;> rfl) (by unfold maxLen; omega) (by omega) (by have h9 := HO.out.keep.size; simp; omega) ?_; intro v5 w5 ho hg5 hs5; obtain ⟨A5, c5, hv5⟩ := own_slice ho; subst hv5; have HX5 := Lib.hid (HO.out.snoc ⟨nm, aA, an, ac, avs⟩ ((Keeps.refl [] wr).alloc _) hg5 ho HAF.out); obtain ⟨d0_5, d1_5⟩ := HCX.out w5 HX5.out.keep; clear ho hg5 hs5)
        go_roundw
        case rel => exact ⟨A5, c5, (k + 1), j + 1, _, rfl, by rw [HT2.out], by go_num, by omega, by show SetS _ _ _ _ _ _ _; rw [HT2.out]; exact HX5.out⟩
        case measure => simp [intOf]; omega
      · have HT2 : Hid (preS ((ents l).take (j + 1)) z vs = (out, true)) := by show _ = _; rw [HT.out]; simp
        clear HT hr hle
        go_wp2_with fail
        go_roundw
        case rel => exact ⟨A', c', k, j + 1, _, rfl, by rw [HT2.out], by go_num, by omega, by show SetS _ _ _ _ _ _ _; rw [HT2.out]; exact HO.out⟩
        case measure => simp [intOf]; omega
      · have HT2 : Hid (preS ((ents l).take (j + 1)) z vs = (out ++ [(nm, avs)], true)) := by show _ = _; rw [HT.out]; simp
        clear HT hr hle
        go_wp2_with (at_builtin; refine wpList_append_opt rfl (.tmp 43) (.tmp 48) 23 rfl w.heap.size 59 iu _ 2 40 Tryz.underlying23 hiu hzu0 hzu1 hzu2 rfl (by decide) (.slice A' k c') k (atCells L) rfl (own_keep HO.out.row ((Keeps.refl [] wr).alloc _) (by simp)) (some ⟨wr.heap.size, 0, none⟩) 1 1 [tv nm, .slice aA an ac] rfl rfl (src_at7 wr ⟨nm, aA, an, ac, avs⟩ _) (by intro u hu; simp at hu; rcases hu with rfl | rfl <;> rfl) (by unfold maxLen; omega) (by omega) (by have h9 := HO.out.keep.size; simp; omega) ?_; intro v5 w5 ho hg5 hs5; obtain ⟨A5, c5, hv5⟩ := own_slice ho; subst hv5; have HX5 := Lib.hid (HO.out.snoc ⟨nm, aA, an, ac, avs⟩ ((Keeps.refl [] wr).alloc _) hg5 ho HAF.out); obtain ⟨d0_5, d1_5⟩ := HCX.out w5 HX5.out.keep; clear ho hg5 hs5)
        go_roundw
        case rel => exact ⟨A5, c5, (k + 1), j + 1, _, rfl, by rw [HT2.out], by go_num, by omega, by show SetS _ _ _ _ _ _ _; rw [HT2.out]; exact HX5.out⟩
        case measure => simp [intOf]; omega
      · exact absurd hr (by have : nm = z := by simpa using hq
                            rw [this]; simp [tx_irr])
    · obtain rfl : j = n := by omega
      have h9 := HO.out
      rw [List.take_of_length_le (by rw [HEL.out]; exact Nat.le_refl _)] at h9 ⊢
      have HW : Hid (setR (ents l) z vs = (preS (ents l) z vs).1 ++ (if (preS (ents l) z vs).2 = true then [] else [(z, vs)])) := rfl
      generalize preS (ents l) z vs = p at h9 HW ⊢
      obtain ⟨out, done⟩ := p
      dsimp only at h9
      have HO9 := Lib.hid h9
      clear h9
      dsimp only
      cases done
      · have HW2 : Hid (setR (ents l) z vs = out ++ [(z, vs)]) := HW.out
        clear HW
        go_wp2_with (at_builtin; refine wpList_append_opt rfl (.tmp 52) (.tmp 56) 23 rfl w.heap.size 59 iu _ 2 40 Tryz.underlying23 hiu hzu0 hzu1 hzu2 rfl (by decide) (.slice A' k c') k (atCells L) rfl (own_keep HO9.out.row ((Keeps.refl [] wr).alloc _) (by simp)) (some ⟨wr.heap.size, 0, none⟩) 1 1 [tv z, .slice B m d] rfl rfl (src_at7 wr ⟨z, B, m, d, vs⟩ _) (by intro u hu; simp at hu; rcases hu with rfl | rfl <;> rfl) (by unfold maxLen; omega) (by omega) (by have h9 := HO9.out.keep.size; simp; omega) ?_; intro v5 w5 ho hg5 hs5; obtain ⟨A5, c5, hv5⟩ := own_slice ho; subst hv5; have HX5 := Lib.hid (HO9.out.snoc ⟨z, B, m, d, vs⟩ ((Keeps.refl [] wr).alloc _) hg5 ho HZF.out); clear ho hg5 hs5)
        go_ret
        rw [HW2.out]
        exact HX5.out.done
      · have HW2 : Hid (setR (ents l) z vs = out) := by show _ = _; rw [HW.out]; simp
        clear HW
        go_wp2_with fail
        go_ret
        rw [HW2.out]
        exact HO9.out.done
end Go.Proofs.YtebocagkpkpghaaGreatDoor
