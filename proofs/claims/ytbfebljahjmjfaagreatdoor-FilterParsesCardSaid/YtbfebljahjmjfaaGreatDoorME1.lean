/- Texts of one proof, laid together: V7 V8 V9. -/
import Derived.Test.YtbfebljahjmjfaaGreatDoorME0
/- entry: entries in memory; namesOf; walked. -/
namespace Go.Proofs.YtbfebljahjmjfaaGreatDoor
open Go.RowKit Go.Shelf
set_option linter.unusedVariables false
set_option linter.unusedSimpArgs false
set_option maxRecDepth 100000

/-- An attribute in memory: its Name, its slice of Values, and what it holds. -/
structure At7 where
  name : Txt
  A : Option Addr
  n : Nat
  c : Nat
  vs : List Txt
/-- An attribute as words. -/
abbrev Att := Txt × List Txt
def At7.att (a : At7) : Att := (a.name, a.vs)
def At7.fits (w : World) (a : At7) : Prop := a.name.length ≤ 9223372036854775807 ∧ a.n ≤ a.c ∧ a.c ≤ 9223372036854775807 ∧ StrsIn w a.A a.n a.vs
theorem At7.fits.grow {w w' : World} {a : At7} (hk : Keeps [] w w') (h : a.fits w) : a.fits w' := ⟨h.1, h.2.1, h.2.2.1, StrsIn.grow hk h.2.2.2⟩
/-- Attributes in memory, one behind the other. -/
def EntIn (w : World) (A : Option Addr) (n : Nat) (l : List At7) : Prop :=
  l.length = n ∧ (∀ a ∈ l, a.fits w) ∧ (0 < n → ∃ b o, A = some ⟨b, o, none⟩ ∧ ∀ (i : Nat) (a : At7), l[i]? = some a → w.cell? ⟨b, o + i * 2, none⟩ = some (tv a.name) ∧ w.cell? ⟨b, o + i * 2 + 1, none⟩ = some (.slice a.A a.n a.c))
theorem EntIn.grow {w w' : World} {A : Option Addr} {n : Nat} {l : List At7} (hk : Keeps [] w w') (h : EntIn w A n l) : EntIn w' A n l := by
  obtain ⟨h1, h2, h3⟩ := h
  refine ⟨h1, fun a ha => (h2 a ha).grow hk, fun hp => ?_⟩
  obtain ⟨b, o, e, hc⟩ := h3 hp
  refine ⟨b, o, e, fun i p hi => ?_⟩
  obtain ⟨c1, c2⟩ := hc i p hi
  exact ⟨(hk.cell (lt_of_cell c1) (by simp)).trans c1, (hk.cell (lt_of_cell c2) (by simp)).trans c2⟩
/-- No more of them, and of their Values, than some. -/
def Few7 (m : Nat) (l : List At7) : Prop := l.length ≤ m ∧ ∀ a ∈ l, a.n ≤ m
def ents (l : List At7) : List Att := l.map At7.att
theorem ents_len (l : List At7) : (ents l).length = l.length := by simp [ents]
theorem ents_at {l : List At7} {i : Nat} {a : At7} (h : l[i]? = some a) : (ents l)[i]? = some a.att := by simp [ents, h]
def namesT (e : List Att) : List Txt := e.map fun a => a.1
theorem names_take {l : List At7} {j : Nat} {a : At7} (h : l[j]? = some a) : namesT (ents (l.take (j + 1))) = namesT (ents (l.take j)) ++ [a.name] := by
  rw [List.take_add_one, h]
  simp [namesT, ents, At7.att]
theorem keeps_own7 {w a b : World} {bs : List Nat} {e : TypeId} {k n : Nat} {v : Value} {xs : List Value} (h : a.ownsRow w.heap.size e k v n xs) (hk : Keeps bs w a) (hg : a.grownBy b v.ownBlock) : Keeps bs w b :=
  hk.trans (Keeps.of_grown (bs := v.ownBlock.toList) hg (fun x hx => .inl (by rw [hx]; simp))) (fun x hx => .inr (by
    cases hv : v.ownBlock with
    | none => rw [hv] at hx; simp at hx
    | some y => rw [hv] at hx; simp at hx; subst hx; exact (h.lt x hv).1))
theorem blk2 {w : World} {g : Nat} {a b : Value} {t : TypeId} (h : w.heap[g]? = some (.cells #[a, b] t (0, 0))) :
    (w.cell? ⟨g, 0, none⟩ = some a ∧ w.cell? ⟨g, 1, none⟩ = some b) ∧ (w.frozen? ⟨g, 0, none⟩ = false ∧ w.frozen? ⟨g, 1, none⟩ = false) :=
  ⟨two_facts6 h, by unfold World.frozen?; rw [h]; exact ⟨rfl, rfl⟩⟩
theorem src_one7 (w : World) (s : Txt) (t : TypeId) : Src (w.alloc (.cells #[tv s] t)) (some ⟨w.heap.size, 0, none⟩) 1 [tv s] := by
  refine ⟨(fun h => by cases h), fun ad hA j u hu => ?_⟩
  cases hA
  rw [add_at, Nat.zero_add, World.cell?_alloc_new]
  simpa using hu

set_option maxHeartbeats 4000000 in
theorem namesof_is (A : Option Addr) (n c : Nat) (l : List At7) (w : World) (h : EntIn w A n l) (hn : n ≤ 100000) :
    Calls Tryz.prog 189 #[.slice A n c] w fun e w' => ∃ A' c', e = .returned (.slice A' n c') ∧ w'.ownsRow w.heap.size 9 1 (.slice A' n c') n ((namesT (ents l)).map tv) ∧ Keeps [] w w' := by
  obtain ⟨iu, hiu, hzu0, hzu1, hzu2⟩ := info_parts str_info7
  have HD := Lib.hid h
  clear h
  go_enter Tryz.func189, Tryz.ntmps189
  go_wp2_with fail
  go_loopw [3, 8] (fun d i wr => ∃ (A' : Option Addr) (c' j : Nat), d = .slice A' j c' ∧ i = .int .i64 (j : Int) ∧ j ≤ n ∧ Hid (wr.ownsRow w.heap.size 9 1 (.slice A' j c') j ((namesT (ents (l.take j))).map tv)) ∧ Hid (Keeps [] w wr)) (fun _ i _ => n - (intOf i).toNat)
  case atStart => exact ⟨none, 0, 0, rfl, rfl, Nat.zero_le _, World.ownsRow_nil _ _ _ _, Keeps.refl _ _⟩
  case round =>
    obtain ⟨A', c', j, rfl, rfl, hj, HR, HKR⟩ := hrel
    by_cases hlt : j < n
    · obtain ⟨hl, hp, hc9⟩ := EntIn.grow HKR.out HD.out
      obtain ⟨b, o, hA9, hcc⟩ := hc9 (by omega)
      clear hc9
      subst hA9
      obtain ⟨a, hu⟩ : ∃ a, l[j]? = some a := ⟨_, List.getElem?_eq_getElem (by omega)⟩
      obtain ⟨c0, c1⟩ := hcc j a hu
      have HT := Lib.hid (names_take hu)
      obtain ⟨nm, aA, an, ac, avs⟩ := a
      dsimp only at c0 c1 HT
      unfold tv at c0
      have hji : (j : Int) < (n : Int) := by omega
      clear hcc hu hp hl
      have HK4 : Hid (Keeps [] wr (wr.alloc (.cells #[.string ⟨nm.toArray⟩, .slice aA an ac] 70))) := (Keeps.refl [] wr).alloc _
      have hz4 : (wr.alloc (.cells #[.string ⟨nm.toArray⟩, .slice aA an ac] 70)).heap.size = wr.heap.size + 1 := by simp
      have hb4 := blk2 (heap_new8 wr (.cells #[.string ⟨nm.toArray⟩, .slice aA an ac] 70))
      obtain ⟨w4, hw4⟩ : ∃ w4, wr.alloc (.cells #[.string ⟨nm.toArray⟩, .slice aA an ac] 70) = w4 := ⟨_, rfl⟩
      rw [hw4] at HK4 hz4 hb4
      obtain ⟨⟨d0, d1⟩, _⟩ := hb4
      have HS4 : Hid (Src (w4.alloc (.cells #[tv nm] 9)) (some ⟨wr.heap.size + 1, 0, none⟩) 1 [tv nm]) := by rw [← hz4]; exact src_one7 w4 nm _
      have HB3 : Hid (w.heap.size ≤ (w4.alloc (.cells #[tv nm] 9)).heap.size) := by
        have h9 := (HKR.out.trans' HK4.out).size
        show _ ≤ _
        simp
        omega
      go_wp2_with (at_builtin; refine wpList_append_opt rfl (.tmp 12) (.tmp 15) 68 rfl w.heap.size 9 iu _ 1 16 Tryz.underlying68 hiu hzu0 hzu1 hzu2 rfl (by decide) (.slice A' j c') j ((namesT (ents (l.take j))).map tv) rfl (own_keep HR.out (HK4.out.alloc _) (by simp)) (some ⟨wr.heap.size + 1, 0, none⟩) 1 1 [tv nm] rfl rfl HS4.out (by intro u hu; simp at hu; subst hu; rfl) (by unfold maxLen; omega) (by omega) HB3.out ?_; intro v5 w5 ho hg5 hs5; obtain ⟨VB, vd, hv5⟩ := own_slice ho; subst hv5; have HO5 := Lib.hid ho; have HK5 := Lib.hid (keeps_own7 (own_keep HR.out (HK4.out.alloc _) (by simp)) (HKR.out.trans' (HK4.out.alloc _)) hg5); clear ho hg5 hs5)
      go_roundw
      case rel => exact ⟨VB, vd, j + 1, rfl, by go_num, by omega, by show World.ownsRow _ _ _ _ _ _ _; rw [HT.out, List.map_append]; exact HO5.out, HK5.out⟩
      case measure => simp [intOf]; omega
    · obtain rfl : j = n := by omega
      have h9 := HR.out
      rw [List.take_of_length_le (by rw [HD.out.1]; exact Nat.le_refl _)] at h9
      have H9 := Lib.hid h9
      clear h9
      go_wp2_with fail
      go_ret
      exact ⟨A', c', rfl, H9.out, HKR.out⟩
end Go.Proofs.YtbfebljahjmjfaaGreatDoor
/- entry: isAttr, Check; walked. -/
namespace Go.Proofs.YtbfebljahjmjfaaGreatDoor
open Go.RowKit Go.Shelf
set_option linter.unusedVariables false
set_option linter.unusedSimpArgs false
set_option maxRecDepth 100000

/-- May an attribute be one of an entry's, but for how many Values it has at most? -/
def attrOk (a : Att) : Bool := decide (0 < a.2.length) && (a.1 == smallL a.1 && (maybeA a.1 a.2 && (a.2 == ordS a.2)))
set_option maxHeartbeats 8000000 in
theorem isattr_is (a : At7) (w : World) (h : a.fits w) (hn : a.n ≤ 100000) :
    Calls Tryz.prog 187 #[.agg #[tv a.name, .slice a.A a.n a.c]] w fun e w' => e = .returned (.bool (attrOk a.att)) ∧ Keeps [] w w' := by
  obtain ⟨s, aA, an, ac, avs⟩ := a
  obtain ⟨hs, hnc, hc, hV⟩ := h
  dsimp only at hs hnc hc hV hn
  obtain ⟨r, hr⟩ : ∃ r, attrOk (At7.att ⟨s, aA, an, ac, avs⟩) = r := ⟨_, rfl⟩
  rw [hr]
  unfold attrOk At7.att at hr
  dsimp only at hr ⊢
  rw [hV.1] at hr
  unfold tv
  have HK0 : Hid (Keeps [] w (w.alloc (.cells #[.string ⟨s.toArray⟩, .slice aA an ac] 70))) := (Keeps.refl [] w).alloc _
  have hb0 := heap_new8 w (.cells #[.string ⟨s.toArray⟩, .slice aA an ac] 70)
  obtain ⟨W0, hW0⟩ : ∃ W0, w.alloc (.cells #[.string ⟨s.toArray⟩, .slice aA an ac] 70) = W0 := ⟨_, rfl⟩
  rw [hW0] at HK0 hb0
  obtain ⟨g, hg⟩ : ∃ g, w.heap.size = g := ⟨_, rfl⟩
  rw [hg] at hb0
  have HF : Hid (∀ X, Keeps [] W0 X → X.cell? ⟨g, 0, none⟩ = some (.string ⟨s.toArray⟩) ∧ X.cell? ⟨g, 1, none⟩ = some (.slice aA an ac)) := fun X hX => (blk2 (blk_keep hb0 hX (by simp))).1
  have HSM := Lib.hid (fun X => small_is s X hs)
  have HMB := Lib.hid (fun X (hX : Keeps [] W0 X) => maybe7_is s aA an ac avs X hs (StrsIn.grow (HK0.out.trans' hX) hV) (by omega))
  have HIO := Lib.hid (fun X (hX : Keeps [] W0 X) => isordered_is aA an ac avs X (StrsIn.grow (HK0.out.trans' hX) hV) (by omega))
  obtain ⟨z, hz⟩ : ∃ z, smallL s = z := ⟨_, rfl⟩
  obtain ⟨q2, hq2⟩ : ∃ q, maybeA s avs = q := ⟨_, rfl⟩
  obtain ⟨q3, hq3⟩ : ∃ q, (avs == ordS avs) = q := ⟨_, rfl⟩
  obtain ⟨q1, hq1⟩ : ∃ q, (s == z) = q := ⟨_, rfl⟩
  obtain ⟨hs1, hs2, hs3⟩ := tx_beq s z q1 hq1
  rw [hz] at hr HSM
  rw [hq1, hq2, hq3] at hr
  rw [hq2] at HMB
  rw [hq3] at HIO
  clear hz hq2 hq3 hV hs hc hb0
  rcases Nat.eq_zero_or_pos an with h0 | h0
  · obtain rfl : r = false := by rw [← hr, h0]; rfl
    have hg0 : decide ((0 : Int) < (an : Int)) = false := by simp; omega
    have hg0b : ¬ (0 : Int) < (an : Int) := by omega
    have H0 := Lib.hid h0
    clear hr hq1 HSM HMB HIO h0 hs1 hs2 hs3 hn hnc
    go_enter Tryz.func187, Tryz.ntmps187
    go_wp2_with fail
    clear hW0 hg
    refine wp_region_held_drew (S := (fun X => X.cell? ⟨g, 0, none⟩ = some (.string ⟨s.toArray⟩) ∧ X.cell? ⟨g, 1, none⟩ = some (.slice aA an ac))) (by kernel_rfl) (HF.out _ ((Keeps.refl [] W0).drew)) ?_
    intro HS
    refine wpAnyH_take (i := 0) (v := .pointer (some ⟨g, 1, none⟩)) rfl (by kernel_rfl) (by kernel_rfl) (by kernel_rfl) (fun _ _ _ h => h) (Or.inl ⟨by kernel_rfl, ?_⟩) HS ?_
    · intro w5 hw5
      obtain ⟨d0, d1⟩ := hw5
      go_simp
    simp only [List.getElem_toArray, List.getElem_cons_succ, List.getElem_cons_zero, Act.put, List.setIfInBounds_toArray, List.set_cons_zero, List.set_cons_succ]
    refine wpAnyH_take (i := 1) (v := .slice aA an ac) rfl (by kernel_rfl) (by kernel_rfl) (by kernel_rfl) (fun _ _ _ h => h) (Or.inl ⟨by kernel_rfl, ?_⟩) HS ?_
    · intro w5 hw5
      obtain ⟨d0, d1⟩ := hw5
      go_simp
    simp only [List.getElem_toArray, List.getElem_cons_succ, List.getElem_cons_zero, Act.put, List.setIfInBounds_toArray, List.set_cons_zero, List.set_cons_succ]
    refine wpAnyH_take (i := 2) (v := .int .i64 (an : Int)) rfl (by kernel_rfl) (by kernel_rfl) (by kernel_rfl) (fun _ _ _ h => h) (Or.inl ⟨by kernel_rfl, ?_⟩) HS ?_
    · intro w5 hw5
      obtain ⟨d0, d1⟩ := hw5
      go_simp
    simp only [List.getElem_toArray, List.getElem_cons_succ, List.getElem_cons_zero, Act.put, List.setIfInBounds_toArray, List.set_cons_zero, List.set_cons_succ]
    refine wpAnyH_take (i := 3) (v := .bool false) rfl (by kernel_rfl) (by kernel_rfl) (by kernel_rfl) (fun _ _ _ h => h) (Or.inl ⟨by kernel_rfl, ?_⟩) HS ?_
    · intro w5 hw5
      obtain ⟨d0, d1⟩ := hw5
      go_simp
      first | done | exact H0.out
    simp only [List.getElem_toArray, List.getElem_cons_succ, List.getElem_cons_zero, Act.put, List.setIfInBounds_toArray, List.set_cons_zero, List.set_cons_succ]
    refine wpAnyH_take (i := 4) (v := .bool false) rfl (by kernel_rfl) (by kernel_rfl) (by kernel_rfl) (fun _ _ _ h => h) (Or.inl ⟨by kernel_rfl, ?_⟩) HS ?_
    · intro w5 hw5
      obtain ⟨d0, d1⟩ := hw5
      go_simp
    simp only [List.getElem_toArray, List.getElem_cons_succ, List.getElem_cons_zero, Act.put, List.setIfInBounds_toArray, List.set_cons_zero, List.set_cons_succ]
    refine wpAnyH_take (i := 5) (v := undef) rfl (by kernel_rfl) (by kernel_rfl) (by kernel_rfl) (fun _ _ _ h => h) (Or.inr ⟨by kernel_rfl, rfl⟩) HS ?_
    simp only [List.getElem_toArray, List.getElem_cons_succ, List.getElem_cons_zero, Act.put, List.setIfInBounds_toArray, List.set_cons_zero, List.set_cons_succ]
    refine wpAnyH_take (i := 6) (v := undef) rfl (by kernel_rfl) (by kernel_rfl) (by kernel_rfl) (fun _ _ _ h => h) (Or.inr ⟨by kernel_rfl, rfl⟩) HS ?_
    simp only [List.getElem_toArray, List.getElem_cons_succ, List.getElem_cons_zero, Act.put, List.setIfInBounds_toArray, List.set_cons_zero, List.set_cons_succ]
    refine wpAnyH_take (i := 7) (v := undef) rfl (by kernel_rfl) (by kernel_rfl) (by kernel_rfl) (fun _ _ _ h => h) (Or.inr ⟨by kernel_rfl, rfl⟩) HS ?_
    simp only [List.getElem_toArray, List.getElem_cons_succ, List.getElem_cons_zero, Act.put, List.setIfInBounds_toArray, List.set_cons_zero, List.set_cons_succ]
    refine wpAnyH_take (i := 8) (v := undef) rfl (by kernel_rfl) (by kernel_rfl) (by kernel_rfl) (fun _ _ _ h => h) (Or.inr ⟨by kernel_rfl, rfl⟩) HS ?_
    simp only [List.getElem_toArray, List.getElem_cons_succ, List.getElem_cons_zero, Act.put, List.setIfInBounds_toArray, List.set_cons_zero, List.set_cons_succ]
    refine wpAnyH_take (i := 9) (v := undef) rfl (by kernel_rfl) (by kernel_rfl) (by kernel_rfl) (fun _ _ _ h => h) (Or.inr ⟨by kernel_rfl, rfl⟩) HS ?_
    simp only [List.getElem_toArray, List.getElem_cons_succ, List.getElem_cons_zero, Act.put, List.setIfInBounds_toArray, List.set_cons_zero, List.set_cons_succ]
    refine wpAnyH_take (i := 10) (v := undef) rfl (by kernel_rfl) (by kernel_rfl) (by kernel_rfl) (fun _ _ _ h => h) (Or.inr ⟨by kernel_rfl, rfl⟩) HS ?_
    simp only [List.getElem_toArray, List.getElem_cons_succ, List.getElem_cons_zero, Act.put, List.setIfInBounds_toArray, List.set_cons_zero, List.set_cons_succ]
    refine wpAnyH_take (i := 11) (v := .bool false) rfl (by kernel_rfl) (by kernel_rfl) (by kernel_rfl) (fun _ _ _ h => h) (Or.inl ⟨by kernel_rfl, ?_⟩) HS ?_
    · intro w5 hw5
      obtain ⟨d0, d1⟩ := hw5
      go_simp
    simp only [List.getElem_toArray, List.getElem_cons_succ, List.getElem_cons_zero, Act.put, List.setIfInBounds_toArray, List.set_cons_zero, List.set_cons_succ]
    refine wpAnyH_take (i := 12) (v := .bool false) rfl (by kernel_rfl) (by kernel_rfl) (by kernel_rfl) (fun _ _ _ h => h) (Or.inl ⟨by kernel_rfl, ?_⟩) HS ?_
    · intro w5 hw5
      obtain ⟨d0, d1⟩ := hw5
      go_simp
    simp only [List.getElem_toArray, List.getElem_cons_succ, List.getElem_cons_zero, Act.put, List.setIfInBounds_toArray, List.set_cons_zero, List.set_cons_succ]
    refine wpAnyH_take (i := 13) (v := undef) rfl (by kernel_rfl) (by kernel_rfl) (by kernel_rfl) (fun _ _ _ h => h) (Or.inr ⟨by kernel_rfl, rfl⟩) HS ?_
    simp only [List.getElem_toArray, List.getElem_cons_succ, List.getElem_cons_zero, Act.put, List.setIfInBounds_toArray, List.set_cons_zero, List.set_cons_succ]
    refine wpAnyH_take (i := 14) (v := undef) rfl (by kernel_rfl) (by kernel_rfl) (by kernel_rfl) (fun _ _ _ h => h) (Or.inr ⟨by kernel_rfl, rfl⟩) HS ?_
    simp only [List.getElem_toArray, List.getElem_cons_succ, List.getElem_cons_zero, Act.put, List.setIfInBounds_toArray, List.set_cons_zero, List.set_cons_succ]
    refine wpAnyH_take (i := 15) (v := undef) rfl (by kernel_rfl) (by kernel_rfl) (by kernel_rfl) (fun _ _ _ h => h) (Or.inr ⟨by kernel_rfl, rfl⟩) HS ?_
    simp only [List.getElem_toArray, List.getElem_cons_succ, List.getElem_cons_zero, Act.put, List.setIfInBounds_toArray, List.set_cons_zero, List.set_cons_succ]
    refine wpAnyH_take (i := 16) (v := undef) rfl (by kernel_rfl) (by kernel_rfl) (by kernel_rfl) (fun _ _ _ h => h) (Or.inr ⟨by kernel_rfl, rfl⟩) HS ?_
    simp only [List.getElem_toArray, List.getElem_cons_succ, List.getElem_cons_zero, Act.put, List.setIfInBounds_toArray, List.set_cons_zero, List.set_cons_succ]
    refine wpAnyH_take (i := 17) (v := undef) rfl (by kernel_rfl) (by kernel_rfl) (by kernel_rfl) (fun _ _ _ h => h) (Or.inr ⟨by kernel_rfl, rfl⟩) HS ?_
    simp only [List.getElem_toArray, List.getElem_cons_succ, List.getElem_cons_zero, Act.put, List.setIfInBounds_toArray, List.set_cons_zero, List.set_cons_succ]
    refine wpAnyH_take (i := 18) (v := .bool false) rfl (by kernel_rfl) (by kernel_rfl) (by kernel_rfl) (fun _ _ _ h => h) (Or.inl ⟨by kernel_rfl, ?_⟩) HS ?_
    · intro w5 hw5
      obtain ⟨d0, d1⟩ := hw5
      go_simp
    simp only [List.getElem_toArray, List.getElem_cons_succ, List.getElem_cons_zero, Act.put, List.setIfInBounds_toArray, List.set_cons_zero, List.set_cons_succ]
    refine wpAnyH_take (i := 19) (v := .bool false) rfl (by kernel_rfl) (by kernel_rfl) (by kernel_rfl) (fun _ _ _ h => h) (Or.inl ⟨by kernel_rfl, ?_⟩) HS ?_
    · intro w5 hw5
      obtain ⟨d0, d1⟩ := hw5
      go_simp
    simp only [List.getElem_toArray, List.getElem_cons_succ, List.getElem_cons_zero, Act.put, List.setIfInBounds_toArray, List.set_cons_zero, List.set_cons_succ]
    refine wpAnyH_take (i := 20) (v := undef) rfl (by kernel_rfl) (by kernel_rfl) (by kernel_rfl) (fun _ _ _ h => h) (Or.inr ⟨by kernel_rfl, rfl⟩) HS ?_
    simp only [List.getElem_toArray, List.getElem_cons_succ, List.getElem_cons_zero, Act.put, List.setIfInBounds_toArray, List.set_cons_zero, List.set_cons_succ]
    refine wpAnyH_take (i := 21) (v := undef) rfl (by kernel_rfl) (by kernel_rfl) (by kernel_rfl) (fun _ _ _ h => h) (Or.inr ⟨by kernel_rfl, rfl⟩) HS ?_
    simp only [List.getElem_toArray, List.getElem_cons_succ, List.getElem_cons_zero, Act.put, List.setIfInBounds_toArray, List.set_cons_zero, List.set_cons_succ]
    refine wpAnyH_take (i := 22) (v := undef) rfl (by kernel_rfl) (by kernel_rfl) (by kernel_rfl) (fun _ _ _ h => h) (Or.inr ⟨by kernel_rfl, rfl⟩) HS ?_
    simp only [List.getElem_toArray, List.getElem_cons_succ, List.getElem_cons_zero, Act.put, List.setIfInBounds_toArray, List.set_cons_zero, List.set_cons_succ]
    refine wpAnyH_take (i := 23) (v := .bool false) rfl (by kernel_rfl) (by kernel_rfl) (by kernel_rfl) (fun _ _ _ h => h) (Or.inl ⟨by kernel_rfl, ?_⟩) HS ?_
    · intro w5 hw5
      obtain ⟨d0, d1⟩ := hw5
      go_simp
    simp only [List.getElem_toArray, List.getElem_cons_succ, List.getElem_cons_zero, Act.put, List.setIfInBounds_toArray, List.set_cons_zero, List.set_cons_succ]
    refine wpAnyH_take (i := 24) (v := .bool false) rfl (by kernel_rfl) (by kernel_rfl) (by kernel_rfl) (fun _ _ _ h => h) (Or.inl ⟨by kernel_rfl, ?_⟩) HS ?_
    · intro w5 hw5
      obtain ⟨d0, d1⟩ := hw5
      go_simp
    simp only [List.getElem_toArray, List.getElem_cons_succ, List.getElem_cons_zero, Act.put, List.setIfInBounds_toArray, List.set_cons_zero, List.set_cons_succ]
    refine wpAnyH_done (by kernel_rfl) ?_ _
    go_wp2_with fail
    go_ret
    exact ⟨rfl, HK0.out.trans' ((Keeps.refl [] W0).drew)⟩
  · have hg0 : decide ((0 : Int) < (an : Int)) = true := by simp; omega
    have hg0b : (0 : Int) < (an : Int) := by omega
    rw [show decide (0 < an) = true by simp; omega] at hr
    have H0 : Hid (0 < an) := h0
    clear h0 hn hnc
    cases q1
    · obtain rfl : r = false := by rw [← hr]; rfl
      have H1 : Hid (¬ s = z) := by simpa [Hid] using hq1
      clear hr hq1 HMB HIO
      go_enter Tryz.func187, Tryz.ntmps187
      go_wp2_with fail
      clear hW0 hg
      refine wp_region_held_drew (S := (fun X => X.cell? ⟨g, 0, none⟩ = some (.string ⟨s.toArray⟩) ∧ X.cell? ⟨g, 1, none⟩ = some (.slice aA an ac))) (by kernel_rfl) (HF.out _ ((Keeps.refl [] W0).drew)) ?_
      intro HS
      refine wpAnyH_take (i := 0) (v := .pointer (some ⟨g, 1, none⟩)) rfl (by kernel_rfl) (by kernel_rfl) (by kernel_rfl) (fun _ _ _ h => h) (Or.inl ⟨by kernel_rfl, ?_⟩) HS ?_
      · intro w5 hw5
        obtain ⟨d0, d1⟩ := hw5
        go_simp
      simp only [List.getElem_toArray, List.getElem_cons_succ, List.getElem_cons_zero, Act.put, List.setIfInBounds_toArray, List.set_cons_zero, List.set_cons_succ]
      refine wpAnyH_take (i := 1) (v := .slice aA an ac) rfl (by kernel_rfl) (by kernel_rfl) (by kernel_rfl) (fun _ _ _ h => h) (Or.inl ⟨by kernel_rfl, ?_⟩) HS ?_
      · intro w5 hw5
        obtain ⟨d0, d1⟩ := hw5
        go_simp
      simp only [List.getElem_toArray, List.getElem_cons_succ, List.getElem_cons_zero, Act.put, List.setIfInBounds_toArray, List.set_cons_zero, List.set_cons_succ]
      refine wpAnyH_take (i := 2) (v := .int .i64 (an : Int)) rfl (by kernel_rfl) (by kernel_rfl) (by kernel_rfl) (fun _ _ _ h => h) (Or.inl ⟨by kernel_rfl, ?_⟩) HS ?_
      · intro w5 hw5
        obtain ⟨d0, d1⟩ := hw5
        go_simp
      simp only [List.getElem_toArray, List.getElem_cons_succ, List.getElem_cons_zero, Act.put, List.setIfInBounds_toArray, List.set_cons_zero, List.set_cons_succ]
      refine wpAnyH_take (i := 3) (v := .bool true) rfl (by kernel_rfl) (by kernel_rfl) (by kernel_rfl) (fun _ _ _ h => h) (Or.inl ⟨by kernel_rfl, ?_⟩) HS ?_
      · intro w5 hw5
        obtain ⟨d0, d1⟩ := hw5
        go_simp
        first | done | exact H0.out
      simp only [List.getElem_toArray, List.getElem_cons_succ, List.getElem_cons_zero, Act.put, List.setIfInBounds_toArray, List.set_cons_zero, List.set_cons_succ]
      refine wpAnyH_take (i := 4) (v := .bool true) rfl (by kernel_rfl) (by kernel_rfl) (by kernel_rfl) (fun _ _ _ h => h) (Or.inl ⟨by kernel_rfl, ?_⟩) HS ?_
      · intro w5 hw5
        obtain ⟨d0, d1⟩ := hw5
        go_simp
      simp only [List.getElem_toArray, List.getElem_cons_succ, List.getElem_cons_zero, Act.put, List.setIfInBounds_toArray, List.set_cons_zero, List.set_cons_succ]
      refine wpAnyH_take (i := 5) (v := .pointer (some ⟨g, 0, none⟩)) rfl (by kernel_rfl) (by kernel_rfl) (by kernel_rfl) (fun _ _ _ h => h) (Or.inl ⟨by kernel_rfl, ?_⟩) HS ?_
      · intro w5 hw5
        obtain ⟨d0, d1⟩ := hw5
        go_simp
      simp only [List.getElem_toArray, List.getElem_cons_succ, List.getElem_cons_zero, Act.put, List.setIfInBounds_toArray, List.set_cons_zero, List.set_cons_succ]
      refine wpAnyH_take (i := 6) (v := .string ⟨s.toArray⟩) rfl (by kernel_rfl) (by kernel_rfl) (by kernel_rfl) (fun _ _ _ h => h) (Or.inl ⟨by kernel_rfl, ?_⟩) HS ?_
      · intro w5 hw5
        obtain ⟨d0, d1⟩ := hw5
        go_simp
      simp only [List.getElem_toArray, List.getElem_cons_succ, List.getElem_cons_zero, Act.put, List.setIfInBounds_toArray, List.set_cons_zero, List.set_cons_succ]
      refine wpAnyH_take (i := 7) (v := .pointer (some ⟨g, 0, none⟩)) rfl (by kernel_rfl) (by kernel_rfl) (by kernel_rfl) (fun _ _ _ h => h) (Or.inl ⟨by kernel_rfl, ?_⟩) HS ?_
      · intro w5 hw5
        obtain ⟨d0, d1⟩ := hw5
        go_simp
      simp only [List.getElem_toArray, List.getElem_cons_succ, List.getElem_cons_zero, Act.put, List.setIfInBounds_toArray, List.set_cons_zero, List.set_cons_succ]
      refine wpAnyH_take (i := 8) (v := .string ⟨s.toArray⟩) rfl (by kernel_rfl) (by kernel_rfl) (by kernel_rfl) (fun _ _ _ h => h) (Or.inl ⟨by kernel_rfl, ?_⟩) HS ?_
      · intro w5 hw5
        obtain ⟨d0, d1⟩ := hw5
        go_simp
      simp only [List.getElem_toArray, List.getElem_cons_succ, List.getElem_cons_zero, Act.put, List.setIfInBounds_toArray, List.set_cons_zero, List.set_cons_succ]
      refine wpAnyH_ready (rs := [9]) (by kernel_rfl) (by simp) ?_
      refine AllReadyH.cons rfl (fun K hK => ?_) AllReadyH.nil
      go_simp
      refine (HSM.out _).mono ?_
      rintro e w1 ⟨rfl, hk1⟩
      have K1 : Hid (Keeps [] W0 w1) := Keeps.trans' ((Keeps.refl [] W0).drew) hk1
      clear hk1
      refine hK.out _ _ (HF.out _ K1.out) (fun HS => ?_)
      clear hK K
      refine wpAnyH_take (i := 10) (v := .bool false) rfl (by kernel_rfl) (by kernel_rfl) (by kernel_rfl) (fun _ _ _ h => h) (Or.inl ⟨by kernel_rfl, ?_⟩) HS ?_
      · intro w5 hw5
        obtain ⟨d0, d1⟩ := hw5
        go_simp
        first | done | exact H1.out | (trace_state; simpa using H1.out)
      simp only [List.getElem_toArray, List.getElem_cons_succ, List.getElem_cons_zero, Act.put, List.setIfInBounds_toArray, List.set_cons_zero, List.set_cons_succ]
      refine wpAnyH_take (i := 11) (v := .bool false) rfl (by kernel_rfl) (by kernel_rfl) (by kernel_rfl) (fun _ _ _ h => h) (Or.inl ⟨by kernel_rfl, ?_⟩) HS ?_
      · intro w5 hw5
        obtain ⟨d0, d1⟩ := hw5
        go_simp
      simp only [List.getElem_toArray, List.getElem_cons_succ, List.getElem_cons_zero, Act.put, List.setIfInBounds_toArray, List.set_cons_zero, List.set_cons_succ]
      refine wpAnyH_take (i := 12) (v := .bool false) rfl (by kernel_rfl) (by kernel_rfl) (by kernel_rfl) (fun _ _ _ h => h) (Or.inl ⟨by kernel_rfl, ?_⟩) HS ?_
      · intro w5 hw5
        obtain ⟨d0, d1⟩ := hw5
        go_simp
      simp only [List.getElem_toArray, List.getElem_cons_succ, List.getElem_cons_zero, Act.put, List.setIfInBounds_toArray, List.set_cons_zero, List.set_cons_succ]
      refine wpAnyH_take (i := 13) (v := undef) rfl (by kernel_rfl) (by kernel_rfl) (by kernel_rfl) (fun _ _ _ h => h) (Or.inr ⟨by kernel_rfl, rfl⟩) HS ?_
      simp only [List.getElem_toArray, List.getElem_cons_succ, List.getElem_cons_zero, Act.put, List.setIfInBounds_toArray, List.set_cons_zero, List.set_cons_succ]
      refine wpAnyH_take (i := 14) (v := undef) rfl (by kernel_rfl) (by kernel_rfl) (by kernel_rfl) (fun _ _ _ h => h) (Or.inr ⟨by kernel_rfl, rfl⟩) HS ?_
      simp only [List.getElem_toArray, List.getElem_cons_succ, List.getElem_cons_zero, Act.put, List.setIfInBounds_toArray, List.set_cons_zero, List.set_cons_succ]
      refine wpAnyH_take (i := 15) (v := undef) rfl (by kernel_rfl) (by kernel_rfl) (by kernel_rfl) (fun _ _ _ h => h) (Or.inr ⟨by kernel_rfl, rfl⟩) HS ?_
      simp only [List.getElem_toArray, List.getElem_cons_succ, List.getElem_cons_zero, Act.put, List.setIfInBounds_toArray, List.set_cons_zero, List.set_cons_succ]
      refine wpAnyH_take (i := 16) (v := undef) rfl (by kernel_rfl) (by kernel_rfl) (by kernel_rfl) (fun _ _ _ h => h) (Or.inr ⟨by kernel_rfl, rfl⟩) HS ?_
      simp only [List.getElem_toArray, List.getElem_cons_succ, List.getElem_cons_zero, Act.put, List.setIfInBounds_toArray, List.set_cons_zero, List.set_cons_succ]
      refine wpAnyH_take (i := 17) (v := undef) rfl (by kernel_rfl) (by kernel_rfl) (by kernel_rfl) (fun _ _ _ h => h) (Or.inr ⟨by kernel_rfl, rfl⟩) HS ?_
      simp only [List.getElem_toArray, List.getElem_cons_succ, List.getElem_cons_zero, Act.put, List.setIfInBounds_toArray, List.set_cons_zero, List.set_cons_succ]
      refine wpAnyH_take (i := 18) (v := .bool false) rfl (by kernel_rfl) (by kernel_rfl) (by kernel_rfl) (fun _ _ _ h => h) (Or.inl ⟨by kernel_rfl, ?_⟩) HS ?_
      · intro w5 hw5
        obtain ⟨d0, d1⟩ := hw5
        go_simp
      simp only [List.getElem_toArray, List.getElem_cons_succ, List.getElem_cons_zero, Act.put, List.setIfInBounds_toArray, List.set_cons_zero, List.set_cons_succ]
      refine wpAnyH_take (i := 19) (v := .bool false) rfl (by kernel_rfl) (by kernel_rfl) (by kernel_rfl) (fun _ _ _ h => h) (Or.inl ⟨by kernel_rfl, ?_⟩) HS ?_
      · intro w5 hw5
        obtain ⟨d0, d1⟩ := hw5
        go_simp
      simp only [List.getElem_toArray, List.getElem_cons_succ, List.getElem_cons_zero, Act.put, List.setIfInBounds_toArray, List.set_cons_zero, List.set_cons_succ]
      refine wpAnyH_take (i := 20) (v := undef) rfl (by kernel_rfl) (by kernel_rfl) (by kernel_rfl) (fun _ _ _ h => h) (Or.inr ⟨by kernel_rfl, rfl⟩) HS ?_
      simp only [List.getElem_toArray, List.getElem_cons_succ, List.getElem_cons_zero, Act.put, List.setIfInBounds_toArray, List.set_cons_zero, List.set_cons_succ]
      refine wpAnyH_take (i := 21) (v := undef) rfl (by kernel_rfl) (by kernel_rfl) (by kernel_rfl) (fun _ _ _ h => h) (Or.inr ⟨by kernel_rfl, rfl⟩) HS ?_
      simp only [List.getElem_toArray, List.getElem_cons_succ, List.getElem_cons_zero, Act.put, List.setIfInBounds_toArray, List.set_cons_zero, List.set_cons_succ]
      refine wpAnyH_take (i := 22) (v := undef) rfl (by kernel_rfl) (by kernel_rfl) (by kernel_rfl) (fun _ _ _ h => h) (Or.inr ⟨by kernel_rfl, rfl⟩) HS ?_
      simp only [List.getElem_toArray, List.getElem_cons_succ, List.getElem_cons_zero, Act.put, List.setIfInBounds_toArray, List.set_cons_zero, List.set_cons_succ]
      refine wpAnyH_take (i := 23) (v := .bool false) rfl (by kernel_rfl) (by kernel_rfl) (by kernel_rfl) (fun _ _ _ h => h) (Or.inl ⟨by kernel_rfl, ?_⟩) HS ?_
      · intro w5 hw5
        obtain ⟨d0, d1⟩ := hw5
        go_simp
      simp only [List.getElem_toArray, List.getElem_cons_succ, List.getElem_cons_zero, Act.put, List.setIfInBounds_toArray, List.set_cons_zero, List.set_cons_succ]
      refine wpAnyH_take (i := 24) (v := .bool false) rfl (by kernel_rfl) (by kernel_rfl) (by kernel_rfl) (fun _ _ _ h => h) (Or.inl ⟨by kernel_rfl, ?_⟩) HS ?_
      · intro w5 hw5
        obtain ⟨d0, d1⟩ := hw5
        go_simp
      simp only [List.getElem_toArray, List.getElem_cons_succ, List.getElem_cons_zero, Act.put, List.setIfInBounds_toArray, List.set_cons_zero, List.set_cons_succ]
      refine wpAnyH_done (by kernel_rfl) ?_ _
      go_wp2_with fail
      go_ret
      exact ⟨rfl, HK0.out.trans' K1.out⟩
    · cases q2
      · obtain rfl : r = false := by rw [← hr]; rfl
        have H1 : Hid (s = z) := by simpa [Hid] using hq1
        clear hr hq1 HIO
        go_enter Tryz.func187, Tryz.ntmps187
        go_wp2_with fail
        clear hW0 hg
        refine wp_region_held_drew (S := (fun X => X.cell? ⟨g, 0, none⟩ = some (.string ⟨s.toArray⟩) ∧ X.cell? ⟨g, 1, none⟩ = some (.slice aA an ac))) (by kernel_rfl) (HF.out _ ((Keeps.refl [] W0).drew)) ?_
        intro HS
        refine wpAnyH_take (i := 0) (v := .pointer (some ⟨g, 1, none⟩)) rfl (by kernel_rfl) (by kernel_rfl) (by kernel_rfl) (fun _ _ _ h => h) (Or.inl ⟨by kernel_rfl, ?_⟩) HS ?_
        · intro w5 hw5
          obtain ⟨d0, d1⟩ := hw5
          go_simp
        simp only [List.getElem_toArray, List.getElem_cons_succ, List.getElem_cons_zero, Act.put, List.setIfInBounds_toArray, List.set_cons_zero, List.set_cons_succ]
        refine wpAnyH_take (i := 1) (v := .slice aA an ac) rfl (by kernel_rfl) (by kernel_rfl) (by kernel_rfl) (fun _ _ _ h => h) (Or.inl ⟨by kernel_rfl, ?_⟩) HS ?_
        · intro w5 hw5
          obtain ⟨d0, d1⟩ := hw5
          go_simp
        simp only [List.getElem_toArray, List.getElem_cons_succ, List.getElem_cons_zero, Act.put, List.setIfInBounds_toArray, List.set_cons_zero, List.set_cons_succ]
        refine wpAnyH_take (i := 2) (v := .int .i64 (an : Int)) rfl (by kernel_rfl) (by kernel_rfl) (by kernel_rfl) (fun _ _ _ h => h) (Or.inl ⟨by kernel_rfl, ?_⟩) HS ?_
        · intro w5 hw5
          obtain ⟨d0, d1⟩ := hw5
          go_simp
        simp only [List.getElem_toArray, List.getElem_cons_succ, List.getElem_cons_zero, Act.put, List.setIfInBounds_toArray, List.set_cons_zero, List.set_cons_succ]
        refine wpAnyH_take (i := 3) (v := .bool true) rfl (by kernel_rfl) (by kernel_rfl) (by kernel_rfl) (fun _ _ _ h => h) (Or.inl ⟨by kernel_rfl, ?_⟩) HS ?_
        · intro w5 hw5
          obtain ⟨d0, d1⟩ := hw5
          go_simp
          first | done | exact H0.out
        simp only [List.getElem_toArray, List.getElem_cons_succ, List.getElem_cons_zero, Act.put, List.setIfInBounds_toArray, List.set_cons_zero, List.set_cons_succ]
        refine wpAnyH_take (i := 4) (v := .bool true) rfl (by kernel_rfl) (by kernel_rfl) (by kernel_rfl) (fun _ _ _ h => h) (Or.inl ⟨by kernel_rfl, ?_⟩) HS ?_
        · intro w5 hw5
          obtain ⟨d0, d1⟩ := hw5
          go_simp
        simp only [List.getElem_toArray, List.getElem_cons_succ, List.getElem_cons_zero, Act.put, List.setIfInBounds_toArray, List.set_cons_zero, List.set_cons_succ]
        refine wpAnyH_take (i := 5) (v := .pointer (some ⟨g, 0, none⟩)) rfl (by kernel_rfl) (by kernel_rfl) (by kernel_rfl) (fun _ _ _ h => h) (Or.inl ⟨by kernel_rfl, ?_⟩) HS ?_
        · intro w5 hw5
          obtain ⟨d0, d1⟩ := hw5
          go_simp
        simp only [List.getElem_toArray, List.getElem_cons_succ, List.getElem_cons_zero, Act.put, List.setIfInBounds_toArray, List.set_cons_zero, List.set_cons_succ]
        refine wpAnyH_take (i := 6) (v := .string ⟨s.toArray⟩) rfl (by kernel_rfl) (by kernel_rfl) (by kernel_rfl) (fun _ _ _ h => h) (Or.inl ⟨by kernel_rfl, ?_⟩) HS ?_
        · intro w5 hw5
          obtain ⟨d0, d1⟩ := hw5
          go_simp
        simp only [List.getElem_toArray, List.getElem_cons_succ, List.getElem_cons_zero, Act.put, List.setIfInBounds_toArray, List.set_cons_zero, List.set_cons_succ]
        refine wpAnyH_take (i := 7) (v := .pointer (some ⟨g, 0, none⟩)) rfl (by kernel_rfl) (by kernel_rfl) (by kernel_rfl) (fun _ _ _ h => h) (Or.inl ⟨by kernel_rfl, ?_⟩) HS ?_
        · intro w5 hw5
          obtain ⟨d0, d1⟩ := hw5
          go_simp
        simp only [List.getElem_toArray, List.getElem_cons_succ, List.getElem_cons_zero, Act.put, List.setIfInBounds_toArray, List.set_cons_zero, List.set_cons_succ]
        refine wpAnyH_take (i := 8) (v := .string ⟨s.toArray⟩) rfl (by kernel_rfl) (by kernel_rfl) (by kernel_rfl) (fun _ _ _ h => h) (Or.inl ⟨by kernel_rfl, ?_⟩) HS ?_
        · intro w5 hw5
          obtain ⟨d0, d1⟩ := hw5
          go_simp
        simp only [List.getElem_toArray, List.getElem_cons_succ, List.getElem_cons_zero, Act.put, List.setIfInBounds_toArray, List.set_cons_zero, List.set_cons_succ]
        refine wpAnyH_ready (rs := [9]) (by kernel_rfl) (by simp) ?_
        refine AllReadyH.cons rfl (fun K hK => ?_) AllReadyH.nil
        go_simp
        refine (HSM.out _).mono ?_
        rintro e w1 ⟨rfl, hk1⟩
        have K1 : Hid (Keeps [] W0 w1) := Keeps.trans' ((Keeps.refl [] W0).drew) hk1
        clear hk1
        refine hK.out _ _ (HF.out _ K1.out) (fun HS => ?_)
        clear hK K
        refine wpAnyH_take (i := 10) (v := .bool true) rfl (by kernel_rfl) (by kernel_rfl) (by kernel_rfl) (fun _ _ _ h => h) (Or.inl ⟨by kernel_rfl, ?_⟩) HS ?_
        · intro w5 hw5
          obtain ⟨d0, d1⟩ := hw5
          go_simp
          first | done | exact H1.out | (trace_state; simpa using H1.out)
        simp only [List.getElem_toArray, List.getElem_cons_succ, List.getElem_cons_zero, Act.put, List.setIfInBounds_toArray, List.set_cons_zero, List.set_cons_succ]
        refine wpAnyH_take (i := 11) (v := .bool true) rfl (by kernel_rfl) (by kernel_rfl) (by kernel_rfl) (fun _ _ _ h => h) (Or.inl ⟨by kernel_rfl, ?_⟩) HS ?_
        · intro w5 hw5
          obtain ⟨d0, d1⟩ := hw5
          go_simp
        simp only [List.getElem_toArray, List.getElem_cons_succ, List.getElem_cons_zero, Act.put, List.setIfInBounds_toArray, List.set_cons_zero, List.set_cons_succ]
        refine wpAnyH_take (i := 12) (v := .bool true) rfl (by kernel_rfl) (by kernel_rfl) (by kernel_rfl) (fun _ _ _ h => h) (Or.inl ⟨by kernel_rfl, ?_⟩) HS ?_
        · intro w5 hw5
          obtain ⟨d0, d1⟩ := hw5
          go_simp
        simp only [List.getElem_toArray, List.getElem_cons_succ, List.getElem_cons_zero, Act.put, List.setIfInBounds_toArray, List.set_cons_zero, List.set_cons_succ]
        refine wpAnyH_take (i := 13) (v := .pointer (some ⟨g, 0, none⟩)) rfl (by kernel_rfl) (by kernel_rfl) (by kernel_rfl) (fun _ _ _ h => h) (Or.inl ⟨by kernel_rfl, ?_⟩) HS ?_
        · intro w5 hw5
          obtain ⟨d0, d1⟩ := hw5
          go_simp
        simp only [List.getElem_toArray, List.getElem_cons_succ, List.getElem_cons_zero, Act.put, List.setIfInBounds_toArray, List.set_cons_zero, List.set_cons_succ]
        refine wpAnyH_take (i := 14) (v := .string ⟨s.toArray⟩) rfl (by kernel_rfl) (by kernel_rfl) (by kernel_rfl) (fun _ _ _ h => h) (Or.inl ⟨by kernel_rfl, ?_⟩) HS ?_
        · intro w5 hw5
          obtain ⟨d0, d1⟩ := hw5
          go_simp
        simp only [List.getElem_toArray, List.getElem_cons_succ, List.getElem_cons_zero, Act.put, List.setIfInBounds_toArray, List.set_cons_zero, List.set_cons_succ]
        refine wpAnyH_take (i := 15) (v := .pointer (some ⟨g, 1, none⟩)) rfl (by kernel_rfl) (by kernel_rfl) (by kernel_rfl) (fun _ _ _ h => h) (Or.inl ⟨by kernel_rfl, ?_⟩) HS ?_
        · intro w5 hw5
          obtain ⟨d0, d1⟩ := hw5
          go_simp
        simp only [List.getElem_toArray, List.getElem_cons_succ, List.getElem_cons_zero, Act.put, List.setIfInBounds_toArray, List.set_cons_zero, List.set_cons_succ]
        refine wpAnyH_take (i := 16) (v := .slice aA an ac) rfl (by kernel_rfl) (by kernel_rfl) (by kernel_rfl) (fun _ _ _ h => h) (Or.inl ⟨by kernel_rfl, ?_⟩) HS ?_
        · intro w5 hw5
          obtain ⟨d0, d1⟩ := hw5
          go_simp
        simp only [List.getElem_toArray, List.getElem_cons_succ, List.getElem_cons_zero, Act.put, List.setIfInBounds_toArray, List.set_cons_zero, List.set_cons_succ]
        refine wpAnyH_ready (rs := [17]) (by kernel_rfl) (by simp) ?_
        refine AllReadyH.cons rfl (fun K hK => ?_) AllReadyH.nil
        go_simp
        refine (HMB.out _ K1.out).mono ?_
        rintro e w2 ⟨rfl, hk2⟩
        have K2 : Hid (Keeps [] W0 w2) := Keeps.trans' K1.out hk2
        clear hk2
        refine hK.out _ _ (HF.out _ K2.out) (fun HS => ?_)
        clear hK K
        refine wpAnyH_take (i := 18) (v := .bool false) rfl (by kernel_rfl) (by kernel_rfl) (by kernel_rfl) (fun _ _ _ h => h) (Or.inl ⟨by kernel_rfl, ?_⟩) HS ?_
        · intro w5 hw5
          obtain ⟨d0, d1⟩ := hw5
          go_simp
        simp only [List.getElem_toArray, List.getElem_cons_succ, List.getElem_cons_zero, Act.put, List.setIfInBounds_toArray, List.set_cons_zero, List.set_cons_succ]
        refine wpAnyH_take (i := 19) (v := .bool false) rfl (by kernel_rfl) (by kernel_rfl) (by kernel_rfl) (fun _ _ _ h => h) (Or.inl ⟨by kernel_rfl, ?_⟩) HS ?_
        · intro w5 hw5
          obtain ⟨d0, d1⟩ := hw5
          go_simp
        simp only [List.getElem_toArray, List.getElem_cons_succ, List.getElem_cons_zero, Act.put, List.setIfInBounds_toArray, List.set_cons_zero, List.set_cons_succ]
        refine wpAnyH_take (i := 20) (v := undef) rfl (by kernel_rfl) (by kernel_rfl) (by kernel_rfl) (fun _ _ _ h => h) (Or.inr ⟨by kernel_rfl, rfl⟩) HS ?_
        simp only [List.getElem_toArray, List.getElem_cons_succ, List.getElem_cons_zero, Act.put, List.setIfInBounds_toArray, List.set_cons_zero, List.set_cons_succ]
        refine wpAnyH_take (i := 21) (v := undef) rfl (by kernel_rfl) (by kernel_rfl) (by kernel_rfl) (fun _ _ _ h => h) (Or.inr ⟨by kernel_rfl, rfl⟩) HS ?_
        simp only [List.getElem_toArray, List.getElem_cons_succ, List.getElem_cons_zero, Act.put, List.setIfInBounds_toArray, List.set_cons_zero, List.set_cons_succ]
        refine wpAnyH_take (i := 22) (v := undef) rfl (by kernel_rfl) (by kernel_rfl) (by kernel_rfl) (fun _ _ _ h => h) (Or.inr ⟨by kernel_rfl, rfl⟩) HS ?_
        simp only [List.getElem_toArray, List.getElem_cons_succ, List.getElem_cons_zero, Act.put, List.setIfInBounds_toArray, List.set_cons_zero, List.set_cons_succ]
        refine wpAnyH_take (i := 23) (v := .bool false) rfl (by kernel_rfl) (by kernel_rfl) (by kernel_rfl) (fun _ _ _ h => h) (Or.inl ⟨by kernel_rfl, ?_⟩) HS ?_
        · intro w5 hw5
          obtain ⟨d0, d1⟩ := hw5
          go_simp
        simp only [List.getElem_toArray, List.getElem_cons_succ, List.getElem_cons_zero, Act.put, List.setIfInBounds_toArray, List.set_cons_zero, List.set_cons_succ]
        refine wpAnyH_take (i := 24) (v := .bool false) rfl (by kernel_rfl) (by kernel_rfl) (by kernel_rfl) (fun _ _ _ h => h) (Or.inl ⟨by kernel_rfl, ?_⟩) HS ?_
        · intro w5 hw5
          obtain ⟨d0, d1⟩ := hw5
          go_simp
        simp only [List.getElem_toArray, List.getElem_cons_succ, List.getElem_cons_zero, Act.put, List.setIfInBounds_toArray, List.set_cons_zero, List.set_cons_succ]
        refine wpAnyH_done (by kernel_rfl) ?_ _
        go_wp2_with fail
        go_ret
        exact ⟨rfl, HK0.out.trans' K2.out⟩
      · obtain rfl : r = q3 := by rw [← hr]; simp
        have H1 : Hid (s = z) := by simpa [Hid] using hq1
        clear hr hq1
        go_enter Tryz.func187, Tryz.ntmps187
        go_wp2_with fail
        clear hW0 hg
        refine wp_region_held_drew (S := (fun X => X.cell? ⟨g, 0, none⟩ = some (.string ⟨s.toArray⟩) ∧ X.cell? ⟨g, 1, none⟩ = some (.slice aA an ac))) (by kernel_rfl) (HF.out _ ((Keeps.refl [] W0).drew)) ?_
        intro HS
        refine wpAnyH_take (i := 0) (v := .pointer (some ⟨g, 1, none⟩)) rfl (by kernel_rfl) (by kernel_rfl) (by kernel_rfl) (fun _ _ _ h => h) (Or.inl ⟨by kernel_rfl, ?_⟩) HS ?_
        · intro w5 hw5
          obtain ⟨d0, d1⟩ := hw5
          go_simp
        simp only [List.getElem_toArray, List.getElem_cons_succ, List.getElem_cons_zero, Act.put, List.setIfInBounds_toArray, List.set_cons_zero, List.set_cons_succ]
        refine wpAnyH_take (i := 1) (v := .slice aA an ac) rfl (by kernel_rfl) (by kernel_rfl) (by kernel_rfl) (fun _ _ _ h => h) (Or.inl ⟨by kernel_rfl, ?_⟩) HS ?_
        · intro w5 hw5
          obtain ⟨d0, d1⟩ := hw5
          go_simp
        simp only [List.getElem_toArray, List.getElem_cons_succ, List.getElem_cons_zero, Act.put, List.setIfInBounds_toArray, List.set_cons_zero, List.set_cons_succ]
        refine wpAnyH_take (i := 2) (v := .int .i64 (an : Int)) rfl (by kernel_rfl) (by kernel_rfl) (by kernel_rfl) (fun _ _ _ h => h) (Or.inl ⟨by kernel_rfl, ?_⟩) HS ?_
        · intro w5 hw5
          obtain ⟨d0, d1⟩ := hw5
          go_simp
        simp only [List.getElem_toArray, List.getElem_cons_succ, List.getElem_cons_zero, Act.put, List.setIfInBounds_toArray, List.set_cons_zero, List.set_cons_succ]
        refine wpAnyH_take (i := 3) (v := .bool true) rfl (by kernel_rfl) (by kernel_rfl) (by kernel_rfl) (fun _ _ _ h => h) (Or.inl ⟨by kernel_rfl, ?_⟩) HS ?_
        · intro w5 hw5
          obtain ⟨d0, d1⟩ := hw5
          go_simp
          first | done | exact H0.out
        simp only [List.getElem_toArray, List.getElem_cons_succ, List.getElem_cons_zero, Act.put, List.setIfInBounds_toArray, List.set_cons_zero, List.set_cons_succ]
        refine wpAnyH_take (i := 4) (v := .bool true) rfl (by kernel_rfl) (by kernel_rfl) (by kernel_rfl) (fun _ _ _ h => h) (Or.inl ⟨by kernel_rfl, ?_⟩) HS ?_
        · intro w5 hw5
          obtain ⟨d0, d1⟩ := hw5
          go_simp
        simp only [List.getElem_toArray, List.getElem_cons_succ, List.getElem_cons_zero, Act.put, List.setIfInBounds_toArray, List.set_cons_zero, List.set_cons_succ]
        refine wpAnyH_take (i := 5) (v := .pointer (some ⟨g, 0, none⟩)) rfl (by kernel_rfl) (by kernel_rfl) (by kernel_rfl) (fun _ _ _ h => h) (Or.inl ⟨by kernel_rfl, ?_⟩) HS ?_
        · intro w5 hw5
          obtain ⟨d0, d1⟩ := hw5
          go_simp
        simp only [List.getElem_toArray, List.getElem_cons_succ, List.getElem_cons_zero, Act.put, List.setIfInBounds_toArray, List.set_cons_zero, List.set_cons_succ]
        refine wpAnyH_take (i := 6) (v := .string ⟨s.toArray⟩) rfl (by kernel_rfl) (by kernel_rfl) (by kernel_rfl) (fun _ _ _ h => h) (Or.inl ⟨by kernel_rfl, ?_⟩) HS ?_
        · intro w5 hw5
          obtain ⟨d0, d1⟩ := hw5
          go_simp
        simp only [List.getElem_toArray, List.getElem_cons_succ, List.getElem_cons_zero, Act.put, List.setIfInBounds_toArray, List.set_cons_zero, List.set_cons_succ]
        refine wpAnyH_take (i := 7) (v := .pointer (some ⟨g, 0, none⟩)) rfl (by kernel_rfl) (by kernel_rfl) (by kernel_rfl) (fun _ _ _ h => h) (Or.inl ⟨by kernel_rfl, ?_⟩) HS ?_
        · intro w5 hw5
          obtain ⟨d0, d1⟩ := hw5
          go_simp
        simp only [List.getElem_toArray, List.getElem_cons_succ, List.getElem_cons_zero, Act.put, List.setIfInBounds_toArray, List.set_cons_zero, List.set_cons_succ]
        refine wpAnyH_take (i := 8) (v := .string ⟨s.toArray⟩) rfl (by kernel_rfl) (by kernel_rfl) (by kernel_rfl) (fun _ _ _ h => h) (Or.inl ⟨by kernel_rfl, ?_⟩) HS ?_
        · intro w5 hw5
          obtain ⟨d0, d1⟩ := hw5
          go_simp
        simp only [List.getElem_toArray, List.getElem_cons_succ, List.getElem_cons_zero, Act.put, List.setIfInBounds_toArray, List.set_cons_zero, List.set_cons_succ]
        refine wpAnyH_ready (rs := [9]) (by kernel_rfl) (by simp) ?_
        refine AllReadyH.cons rfl (fun K hK => ?_) AllReadyH.nil
        go_simp
        refine (HSM.out _).mono ?_
        rintro e w1 ⟨rfl, hk1⟩
        have K1 : Hid (Keeps [] W0 w1) := Keeps.trans' ((Keeps.refl [] W0).drew) hk1
        clear hk1
        refine hK.out _ _ (HF.out _ K1.out) (fun HS => ?_)
        clear hK K
        refine wpAnyH_take (i := 10) (v := .bool true) rfl (by kernel_rfl) (by kernel_rfl) (by kernel_rfl) (fun _ _ _ h => h) (Or.inl ⟨by kernel_rfl, ?_⟩) HS ?_
        · intro w5 hw5
          obtain ⟨d0, d1⟩ := hw5
          go_simp
          first | done | exact H1.out | (trace_state; simpa using H1.out)
        simp only [List.getElem_toArray, List.getElem_cons_succ, List.getElem_cons_zero, Act.put, List.setIfInBounds_toArray, List.set_cons_zero, List.set_cons_succ]
        refine wpAnyH_take (i := 11) (v := .bool true) rfl (by kernel_rfl) (by kernel_rfl) (by kernel_rfl) (fun _ _ _ h => h) (Or.inl ⟨by kernel_rfl, ?_⟩) HS ?_
        · intro w5 hw5
          obtain ⟨d0, d1⟩ := hw5
          go_simp
        simp only [List.getElem_toArray, List.getElem_cons_succ, List.getElem_cons_zero, Act.put, List.setIfInBounds_toArray, List.set_cons_zero, List.set_cons_succ]
        refine wpAnyH_take (i := 12) (v := .bool true) rfl (by kernel_rfl) (by kernel_rfl) (by kernel_rfl) (fun _ _ _ h => h) (Or.inl ⟨by kernel_rfl, ?_⟩) HS ?_
        · intro w5 hw5
          obtain ⟨d0, d1⟩ := hw5
          go_simp
        simp only [List.getElem_toArray, List.getElem_cons_succ, List.getElem_cons_zero, Act.put, List.setIfInBounds_toArray, List.set_cons_zero, List.set_cons_succ]
        refine wpAnyH_take (i := 13) (v := .pointer (some ⟨g, 0, none⟩)) rfl (by kernel_rfl) (by kernel_rfl) (by kernel_rfl) (fun _ _ _ h => h) (Or.inl ⟨by kernel_rfl, ?_⟩) HS ?_
        · intro w5 hw5
          obtain ⟨d0, d1⟩ := hw5
          go_simp
        simp only [List.getElem_toArray, List.getElem_cons_succ, List.getElem_cons_zero, Act.put, List.setIfInBounds_toArray, List.set_cons_zero, List.set_cons_succ]
        refine wpAnyH_take (i := 14) (v := .string ⟨s.toArray⟩) rfl (by kernel_rfl) (by kernel_rfl) (by kernel_rfl) (fun _ _ _ h => h) (Or.inl ⟨by kernel_rfl, ?_⟩) HS ?_
        · intro w5 hw5
          obtain ⟨d0, d1⟩ := hw5
          go_simp
        simp only [List.getElem_toArray, List.getElem_cons_succ, List.getElem_cons_zero, Act.put, List.setIfInBounds_toArray, List.set_cons_zero, List.set_cons_succ]
        refine wpAnyH_take (i := 15) (v := .pointer (some ⟨g, 1, none⟩)) rfl (by kernel_rfl) (by kernel_rfl) (by kernel_rfl) (fun _ _ _ h => h) (Or.inl ⟨by kernel_rfl, ?_⟩) HS ?_
        · intro w5 hw5
          obtain ⟨d0, d1⟩ := hw5
          go_simp
        simp only [List.getElem_toArray, List.getElem_cons_succ, List.getElem_cons_zero, Act.put, List.setIfInBounds_toArray, List.set_cons_zero, List.set_cons_succ]
        refine wpAnyH_take (i := 16) (v := .slice aA an ac) rfl (by kernel_rfl) (by kernel_rfl) (by kernel_rfl) (fun _ _ _ h => h) (Or.inl ⟨by kernel_rfl, ?_⟩) HS ?_
        · intro w5 hw5
          obtain ⟨d0, d1⟩ := hw5
          go_simp
        simp only [List.getElem_toArray, List.getElem_cons_succ, List.getElem_cons_zero, Act.put, List.setIfInBounds_toArray, List.set_cons_zero, List.set_cons_succ]
        refine wpAnyH_ready (rs := [17]) (by kernel_rfl) (by simp) ?_
        refine AllReadyH.cons rfl (fun K hK => ?_) AllReadyH.nil
        go_simp
        refine (HMB.out _ K1.out).mono ?_
        rintro e w2 ⟨rfl, hk2⟩
        have K2 : Hid (Keeps [] W0 w2) := Keeps.trans' K1.out hk2
        clear hk2
        refine hK.out _ _ (HF.out _ K2.out) (fun HS => ?_)
        clear hK K
        refine wpAnyH_take (i := 18) (v := .bool true) rfl (by kernel_rfl) (by kernel_rfl) (by kernel_rfl) (fun _ _ _ h => h) (Or.inl ⟨by kernel_rfl, ?_⟩) HS ?_
        · intro w5 hw5
          obtain ⟨d0, d1⟩ := hw5
          go_simp
        simp only [List.getElem_toArray, List.getElem_cons_succ, List.getElem_cons_zero, Act.put, List.setIfInBounds_toArray, List.set_cons_zero, List.set_cons_succ]
        refine wpAnyH_take (i := 19) (v := .bool true) rfl (by kernel_rfl) (by kernel_rfl) (by kernel_rfl) (fun _ _ _ h => h) (Or.inl ⟨by kernel_rfl, ?_⟩) HS ?_
        · intro w5 hw5
          obtain ⟨d0, d1⟩ := hw5
          go_simp
        simp only [List.getElem_toArray, List.getElem_cons_succ, List.getElem_cons_zero, Act.put, List.setIfInBounds_toArray, List.set_cons_zero, List.set_cons_succ]
        refine wpAnyH_take (i := 20) (v := .pointer (some ⟨g, 1, none⟩)) rfl (by kernel_rfl) (by kernel_rfl) (by kernel_rfl) (fun _ _ _ h => h) (Or.inl ⟨by kernel_rfl, ?_⟩) HS ?_
        · intro w5 hw5
          obtain ⟨d0, d1⟩ := hw5
          go_simp
        simp only [List.getElem_toArray, List.getElem_cons_succ, List.getElem_cons_zero, Act.put, List.setIfInBounds_toArray, List.set_cons_zero, List.set_cons_succ]
        refine wpAnyH_take (i := 21) (v := .slice aA an ac) rfl (by kernel_rfl) (by kernel_rfl) (by kernel_rfl) (fun _ _ _ h => h) (Or.inl ⟨by kernel_rfl, ?_⟩) HS ?_
        · intro w5 hw5
          obtain ⟨d0, d1⟩ := hw5
          go_simp
        simp only [List.getElem_toArray, List.getElem_cons_succ, List.getElem_cons_zero, Act.put, List.setIfInBounds_toArray, List.set_cons_zero, List.set_cons_succ]
        refine wpAnyH_ready (rs := [22]) (by kernel_rfl) (by simp) ?_
        refine AllReadyH.cons rfl (fun K hK => ?_) AllReadyH.nil
        go_simp
        refine (HIO.out _ K2.out).mono ?_
        rintro e w3 ⟨rfl, hk3⟩
        have K3 : Hid (Keeps [] W0 w3) := Keeps.trans' K2.out hk3
        clear hk3
        refine hK.out _ _ (HF.out _ K3.out) (fun HS => ?_)
        clear hK K
        refine wpAnyH_take (i := 23) (v := .bool r) rfl (by kernel_rfl) (by kernel_rfl) (by kernel_rfl) (fun _ _ _ h => h) (Or.inl ⟨by kernel_rfl, ?_⟩) HS ?_
        · intro w5 hw5
          obtain ⟨d0, d1⟩ := hw5
          go_simp
        simp only [List.getElem_toArray, List.getElem_cons_succ, List.getElem_cons_zero, Act.put, List.setIfInBounds_toArray, List.set_cons_zero, List.set_cons_succ]
        refine wpAnyH_take (i := 24) (v := .bool r) rfl (by kernel_rfl) (by kernel_rfl) (by kernel_rfl) (fun _ _ _ h => h) (Or.inl ⟨by kernel_rfl, ?_⟩) HS ?_
        · intro w5 hw5
          obtain ⟨d0, d1⟩ := hw5
          go_simp
        simp only [List.getElem_toArray, List.getElem_cons_succ, List.getElem_cons_zero, Act.put, List.setIfInBounds_toArray, List.set_cons_zero, List.set_cons_succ]
        refine wpAnyH_done (by kernel_rfl) ?_ _
        go_wp2_with fail
        go_ret
        exact ⟨rfl, HK0.out.trans' K3.out⟩
end Go.Proofs.YtbfebljahjmjfaaGreatDoor
/- entry: Check; walked. -/
namespace Go.Proofs.YtbfebljahjmjfaaGreatDoor
open Go.RowKit Go.Shelf
set_option linter.unusedVariables false
set_option linter.unusedSimpArgs false
set_option maxRecDepth 100000

/-- May an attribute be one of n? -/
def oneOk (n : Nat) (a : Att) : Bool := !longN n a.2.length && attrOk a
/-- May an entry be? -/
def entOk (e : List Att) : Bool := e.all (oneOk e.length) && (namesT e == ordS (namesT e))
theorem all_take7 {α : Type} {xs : List α} {p : α → Bool} {j : Nat} {u : α} (hu : xs[j]? = some u) : (xs.take (j + 1)).all p = ((xs.take j).all p && p u) := by
  rw [List.take_add_one, hu, List.all_append]
  simp
theorem all_cut7 {α : Type} {xs : List α} {p : α → Bool} {j : Nat} {u : α} (hu : xs[j]? = some u) (h : p u = false) : xs.all p = false := by
  rw [List.all_eq_false]
  exact ⟨u, List.mem_of_getElem? hu, by simp [h]⟩

set_option maxHeartbeats 8000000 in
theorem check7_is (A : Option Addr) (n c : Nat) (l : List At7) (w : World) (h : EntIn w A n l) (hf : Few7 100000 l) :
    Calls Tryz.prog 123 #[.slice A n c] w fun e w' => e = .returned (.int .i64 (if entOk (ents l) then 0 else 2)) ∧ Keeps [] w w' := by
  have HD := Lib.hid h
  have HF := Lib.hid hf
  have hn : n ≤ 100000 := by rw [← h.1]; exact hf.1
  have HNM := Lib.hid (fun X (hX : Keeps [] w X) => namesof_is A n c l X (EntIn.grow hX h) hn)
  have HNL : Hid ((namesT (ents l)).length = n) := by show _ = _; simp [namesT, ents, h.1]
  have HNB : Hid (∀ s ∈ namesT (ents l), s.length ≤ 9223372036854775807) := fun s hs => by
    simp only [namesT, ents, List.map_map, List.mem_map] at hs
    obtain ⟨a, ha, rfl⟩ := hs
    exact (h.2.1 a ha).1
  have HEL : Hid ((ents l).length = n) := by show _ = _; rw [ents_len, h.1]
  obtain ⟨r, hr⟩ : ∃ r, entOk (ents l) = r := ⟨_, rfl⟩
  rw [hr]
  unfold entOk at hr
  rw [HEL.out] at hr
  obtain ⟨q, hq⟩ : ∃ q, (namesT (ents l) == ordS (namesT (ents l))) = q := ⟨_, rfl⟩
  rw [hq] at hr
  have HR : Hid (((ents l).all (oneOk n) && q) = r) := hr
  have HQ := Lib.hid hq
  clear h hf hr hq
  go_enter Tryz.func123, Tryz.ntmps123
  go_wp2_with fail
  refine wp_scope_once 0 rfl ?_
  go_wp2_with fail
  go_loopw [7] (fun i wr => ∃ j : Nat, i = .int .i64 (j : Int) ∧ j ≤ n ∧ Hid (((ents l).take j).all (oneOk n) = true) ∧ Hid (Keeps [] w wr)) (fun i _ => n - (intOf i).toNat)
  case atStart => exact ⟨0, rfl, Nat.zero_le _, rfl, Keeps.refl _ _⟩
  case round =>
    obtain ⟨j, rfl, hj, HA, HKR⟩ := hrel
    by_cases hlt : j < n
    · obtain ⟨hl, hp, hc9⟩ := EntIn.grow HKR.out HD.out
      obtain ⟨b, o, hA9, hcc⟩ := hc9 (by omega)
      clear hc9
      subst hA9
      obtain ⟨a, hu⟩ : ∃ a, l[j]? = some a := ⟨_, List.getElem?_eq_getElem (by omega)⟩
      obtain ⟨c0, c1⟩ := hcc j a hu
      have hfit := hp a (List.mem_of_getElem? hu)
      have hfn := HF.out.2 a (List.mem_of_getElem? hu)
      have hue := ents_at hu
      have HT := Lib.hid (all_take7 (p := oneOk n) hue)
      have HC := Lib.hid (fun h => all_cut7 (p := oneOk n) hue h)
      obtain ⟨q1, hq1⟩ : ∃ q, oneOk n a.att = q := ⟨_, rfl⟩
      rw [hq1] at HT HC
      unfold oneOk at hq1
      have hvl : a.att.2.length = a.n := hfit.2.2.2.1
      rw [hvl] at hq1
      have HIA := Lib.hid (fun X (hX : Keeps [] wr X) => isattr_is a X (hfit.grow hX) hfn)
      obtain ⟨q2, hq2⟩ : ∃ q, attrOk a.att = q := ⟨_, rfl⟩
      rw [hq2] at hq1 HIA
      obtain ⟨nm, aA, an, ac, avs⟩ := a
      dsimp only at c0 c1 hq1 HIA
      have HIL := Lib.hid (fun X => islong_is n an X)
      obtain ⟨q3, hq3⟩ : ∃ q, longN n an = q := ⟨_, rfl⟩
      rw [hq3] at HIL hq1
      unfold tv at c0 HIA
      have hji : (j : Int) < (n : Int) := by omega
      have HK4 : Hid (Keeps [] wr (wr.alloc (.cells #[.string ⟨nm.toArray⟩, .slice aA an ac] 70))) := (Keeps.refl [] wr).alloc _
      obtain ⟨⟨d0, d1⟩, _⟩ := blk2 (heap_new8 wr (.cells #[.string ⟨nm.toArray⟩, .slice aA an ac] 70))
      obtain ⟨w4, hw4⟩ : ∃ w4, wr.alloc (.cells #[.string ⟨nm.toArray⟩, .slice aA an ac] 70) = w4 := ⟨_, rfl⟩
      rw [hw4] at HK4 d0 d1
      clear hcc hu hue hp hl hfit hfn hq2 hq3 hvl
      cases q3
      · have HH : Hid (q2 = q1) := by show _ = _; rw [← hq1]; simp
        obtain rfl := HH.out
        clear hq1 HH
        go_wp2_with fail
        refine (HIL.out _).mono ?_
        rintro e w5 ⟨rfl, rfl⟩
        go_wp2_with fail
        refine (HIA.out _ HK4.out).mono ?_
        rintro e w6 ⟨rfl, hk6⟩
        have HK6 := Lib.hid (HKR.out.trans' (HK4.out.trans' hk6))
        clear hk6
        cases q2
        · go_wp2_with fail
          go_step3
          refine ⟨rfl, ?_⟩
          go_wp2
          rw [Exit.noGoto_ret]
          go_ret
          exact ⟨by rw [← HR.out, HC.out (by first | exact trivial | rfl)]; rfl, HK6.out⟩
        · go_wp2_with fail
          go_roundw
          case rel => exact ⟨j + 1, by go_num, by omega, by show _ = _; rw [HT.out, HA.out]; rfl, HK6.out⟩
          case measure => simp [intOf]; omega
      · obtain rfl : q1 = false := by rw [← hq1]; rfl
        clear hq1
        go_wp2_with fail
        refine (HIL.out _).mono ?_
        rintro e w5 ⟨rfl, rfl⟩
        go_wp2_with fail
        go_step3
        refine ⟨rfl, ?_⟩
        go_wp2
        rw [Exit.noGoto_ret]
        go_ret
        exact ⟨by rw [← HR.out, HC.out (by first | exact trivial | rfl)]; rfl, HKR.out.trans' HK4.out⟩
    · obtain rfl : j = n := by omega
      have h9 := HA.out
      rw [List.take_of_length_le (by rw [HEL.out]; exact Nat.le_refl _)] at h9
      have H9 : Hid (q = r) := by show _ = _; rw [← HR.out, h9]; rfl
      clear h9
      go_wp2_with fail
      refine (HNM.out _ HKR.out).mono ?_
      rintro e w5 ⟨A', c', rfl, h1, h2⟩
      have HIO := Lib.hid (isordered_is A' j c' (namesT (ents l)) w5 (StrsIn.of_own h1 HNL.out HNB.out) (by omega))
      rw [HQ.out] at HIO
      have HK5 := Lib.hid (HKR.out.trans' h2)
      clear h1 h2
      go_wp2_with fail
      refine HIO.out.mono ?_
      rintro e w6 ⟨rfl, hk6⟩
      have HK6 := Lib.hid (HK5.out.trans' hk6)
      clear hk6
      cases q
      · go_wp2_with fail
        go_step3
        refine ⟨rfl, ?_⟩
        go_wp2
        rw [Exit.noGoto_ret]
        go_ret
        exact ⟨by rw [← H9.out]; rfl, HK6.out⟩
      · go_wp2_with fail
        simp only [Exit.jump]
        go_ret
        exact ⟨by rw [← H9.out]; rfl, HK6.out⟩
end Go.Proofs.YtbfebljahjmjfaaGreatDoor
