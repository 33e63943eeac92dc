import Derived.Test.YtbfebljahjmjfaaGreatDoorQ36
import Derived.Test.YtbfebljahjmjfaaGreatDoorQ08
import Derived.BigQuiet
import Derived.Test.YtbfebljahjmjfaaGreatDoorQ15
import Derived.Test.YtbfebljahjmjfaaGreatDoorQ34
import Derived.Test.YtbfebljahjmjfaaGreatDoorQ18
import Derived.Test.YtbfebljahjmjfaaGreatDoorQ10
import Derived.Test.YtbfebljahjmjfaaGreatDoorQ35
/- filter: what the program's Same finds (as in E31). -/
namespace Go.Proofs.YtbfebljahjmjfaaGreatDoor
open Go.RowKit Go.Shelf
set_option linter.unusedVariables false
set_option linter.unusedSimpArgs false
set_option maxRecDepth 100000

open Classical in
/-- Two rows of filters to be held against one another. -/
structure SR8 where
 n : Nat
 A : Option Addr
 c : Nat
 B : Option Addr
 d : Nat
 x : List FV
 y : List FV
def SR8.cells (s : SR8) : List Value := [.slice s.A s.n s.c, .slice s.B s.n s.d]
def SR8.ok (s : SR8) (w : World) : Prop := s.x.length = s.n ∧ s.y.length = s.n ∧ s.n ≤ 9223372036854775807 ∧ FilsAt w s.A 0 s.x ∧ FilsAt w s.B 0 s.y
theorem FilAt.head {w : World} {t : FV} {h : FH} (ht : FilAt w t h) : h.k = t.k ∧ h.s = t.s ∧ h.v = t.v ∧ t.l.length = h.lb ∧ h.lb ≤ h.cb ∧ h.cb ≤ 9223372036854775807 ∧ t.s.length ≤ 9223372036854775807 ∧ FilsAt w h.B 0 t.l := by
 cases t with
 | mk k l s v =>
  obtain ⟨h1, h2, h3, h4, h5, h6, h7, h8, h9, h10, h11⟩ := ht
  exact ⟨h1, h2, h3, h8, h9, h10, h6, h11⟩
end Go.Proofs.YtbfebljahjmjfaaGreatDoor
/- filter: literals in memory (as in W7, W33). -/
namespace Go.Proofs.YtbfebljahjmjfaaGreatDoor
open Go.RowKit Go.Shelf
set_option linter.unusedVariables false
set_option linter.unusedSimpArgs false
set_option maxRecDepth 100000

def At7.val (a : At7) : Value := .slice a.A a.n a.c
def atCells (l : List At7) : List Value := l.flatMap fun a => [tv a.name, a.val]
theorem atCells_len (l : List At7) : (atCells l).length = l.length * 2 := by
 unfold atCells
 induction l with
 | nil => rfl
 | cons p r ih => simp only [List.flatMap_cons, List.length_append, ih, List.length_cons, List.length_nil]; omega
theorem atCells_at : ∀ (l : List At7) (i : Nat) (a : At7), l[i]? = some a → (atCells l)[i * 2]? = some (tv a.name) ∧ (atCells l)[i * 2 + 1]? = some a.val
 | [], i, p, h => by simp at h
 | q :: r, 0, p, h => by simp at h; subst h; simp [atCells]
 | q :: r, i + 1, p, h => by
  have ih := atCells_at r i p (by simpa using h)
  have e : atCells (q :: r) = tv q.name :: q.val :: atCells r := rfl
  rw [e, show (i + 1) * 2 = i * 2 + 1 + 1 by omega]
  simpa using ih
theorem EntIn.of_own {w : World} {B n c : Nat} {A : Option Addr} {t : TypeId} {l : List At7} (h : w.ownsRow B t 2 (.slice A n c) n (atCells l)) (hn : l.length = n) (hl : ∀ a ∈ l, a.fits w) : EntIn w A n l := by
 refine ⟨hn, hl, fun hp => ?_⟩
 rcases h.2 with ⟨_, h2⟩ | ⟨g, cap, cur, hA, hg, hh, r⟩
 ·exfalso; omega
 ·injection hA with e1 e2 e3
  subst e1
  refine ⟨g, 0, rfl, fun i a hi => ?_⟩
  obtain ⟨d1, d2⟩ := atCells_at l i a hi
  have c1 := h.cells (g := g) rfl (i * 2) _ d1
  have c2 := h.cells (g := g) rfl (i * 2 + 1) _ d2
  rw [show (⟨g, 0, none⟩ : Addr).add (i * 2) = ⟨g, 0 + i * 2, none⟩ from by unfold Addr.add; split <;> simp_all] at c1
  rw [show (⟨g, 0, none⟩ : Addr).add (i * 2 + 1) = ⟨g, 0 + i * 2 + 1, none⟩ from by unfold Addr.add; split <;> simp_all <;> omega] at c2
  exact ⟨c1, c2⟩
theorem strs_lit (w : World) (l : List Txt) (n : Nat) (cs : Array Value) (hc : cs = (l.map tv).toArray) (hn : l.length = n) (hm : n ≤ 1000) (ht : ∀ s ∈ l, s.length ≤ 1000) : StrsIn (w.alloc (.cells cs 9)) (some ⟨w.heap.size, 0, none⟩) n l := by
 subst hc
 have h := World.ownsRow_lit (base := w.heap.size) (e := 9) (size := 1) w (l.map tv).toArray n (Nat.le_refl _) (by unfold maxLen; omega) (by simp [hn])
 exact StrsIn.of_own (by simpa using h) hn (fun s hs => by have := ht s hs; omega)
theorem ents_lit (w : World) (l : List At7) (n : Nat) (cs : Array Value) (hc : cs = (atCells l).toArray) (hn : l.length = n) (hm : n ≤ 1000) (hf : ∀ a ∈ l, a.fits w) : EntIn (w.alloc (.cells cs 70)) (some ⟨w.heap.size, 0, none⟩) n l := by
 subst hc
 have h := World.ownsRow_lit (base := w.heap.size) (e := 70) (size := 2) w (atCells l).toArray n (Nat.le_refl _) (by unfold maxLen; omega) (by simp [atCells_len, hn])
 exact EntIn.of_own (by simpa using h) hn (fun a ha => (hf a ha).grow ((Keeps.refl [] w).alloc _))
end Go.Proofs.YtbfebljahjmjfaaGreatDoor
/- filter: the law's known; walked. -/
namespace Go.Proofs.YtbfebljahjmjfaaGreatDoor
open Go.RowKit Go.Shelf
set_option linter.unusedVariables false
set_option linter.unusedSimpArgs false
set_option maxRecDepth 100000

def kT8 : Txt := [40, 38, 40, 99, 110, 61, 65, 42, 41, 40, 33, 40, 109, 97, 105, 108, 61, 42, 41, 41, 41]
def kF8 : FV := .mk 1 [.mk 5 [] [99, 110] [65], .mk 3 [.mk 6 [] [109, 97, 105, 108] []] [] []] [] []
def kA8 : List Att := [([99, 110], [[97, 110, 110, 97]])]
def kB8 : List Att := [([99, 110], [[97, 110, 110, 97]]), ([109, 97, 105, 108], [[120]])]
theorem r_one8 (a : Txt) : Rise [a] := by simp [Rise]
theorem r_cm8 : Rise [[99, 110], [109, 97, 105, 108]] := by unfold Rise; decide +kernel
theorem ord_one8 (a : Txt) : ordS [a] = [a] := ordS_rise (r_one8 a)
theorem ord_cm8 : ordS [[99, 110], [109, 97, 105, 108]] = [[99, 110], [109, 97, 105, 108]] := ordS_rise r_cm8
theorem ord_nil8 : ordS [] = [] := ordS_rise (by simp [Rise])
theorem okA8 : entOk kA8 = true := by
 unfold entOk
 rw [show namesT kA8 = [[99, 110]] from rfl, ord_one8]
 unfold kA8 oneOk attrOk
 simp only [List.all_cons, List.all_nil, ord_one8]
 decide +kernel
theorem okB8 : entOk kB8 = true := by
 unfold entOk
 rw [show namesT kB8 = [[99, 110], [109, 97, 105, 108]] from rfl, ord_cm8]
 unfold kB8 oneOk attrOk
 simp only [List.all_cons, List.all_nil, ord_one8]
 decide +kernel
theorem stands_plain {e : List Att} : standsP e [] = entOk e := by
 unfold standsP
 rw [show namesT [] = [] from rfl, ord_nil8]
 simp
theorem known_parse8 : parseF kT8 = some kF8 := by kernel_rfl
theorem known_right8 : rightF kF8 = true := by kernel_rfl
theorem known_meansA : meansP kA8 [] kF8 = (true, 0) := by
 unfold meansP
 rw [stands_plain, okA8, known_right8, if_pos ⟨rfl, rfl⟩]
 kernel_rfl
theorem known_meansB : meansP kB8 [] kF8 = (false, 0) := by
 unfold meansP
 rw [stands_plain, okB8, known_right8, if_pos ⟨rfl, rfl⟩]
 kernel_rfl
theorem known_text8 : ftextP kF8 = (kT8, 0) := by kernel_rfl
set_option maxHeartbeats 8000000 in
theorem known8_is (w : World) (hG : SgnAt w) (hs : SynAt w) : Calls Tryz.prog 8 #[] w fun e w' => e = .returned (.bool true) ∧ Keeps [] w w' := by
 have HPR : Hid (Calls Tryz.prog 9 #[.string ⟨#[40, 38, 40, 99, 110, 61, 65, 42, 41, 40, 33, 40, 109, 97, 105, 108, 61, 42, 41, 41, 41]⟩] w (PrsQ kT8 w)) := fparse_is kT8 w (by decide) hG hs
 have HG := Lib.hid hG
 have HKT := Lib.hid (show (⟨kT8.toArray⟩ : ByteArray) = ⟨#[40, 38, 40, 99, 110, 61, 65, 42, 41, 40, 33, 40, 109, 97, 105, 108, 61, 42, 41, 41, 41]⟩ from rfl)
 clear hG hs
 go_enter Tryz.func8, Tryz.ntmps8
 go_wp2_with fail
 refine HPR.out.mono ?_
 rintro e w1 ⟨⟨t, h, hp, rfl, hf⟩ | ⟨hp, _⟩, hk1⟩
 rotate_left
 ·rw [known_parse8] at hp; cases hp
 rw [known_parse8] at hp
 injection hp with hp
 subst hp
 have HK1 := Lib.hid hk1
 have HF1 := Lib.hid hf
 clear hk1 hf HPR
 have HFA := Lib.hid (fun X (hX : Keeps [] w1 X) => FilAt.grow hX kF8 h HF1.out)
 obtain ⟨k, B, lb, cb, s, v⟩ := h
 have HBF := Lib.hid (heap_new8 w1 (.cells #[.int .i64 k, .slice B lb cb, .string ⟨s.toArray⟩, .string ⟨v.toArray⟩] 26))
 have HK2 : Hid (Keeps [] w1 (w1.alloc (.cells #[.int .i64 k, .slice B lb cb, .string ⟨s.toArray⟩, .string ⟨v.toArray⟩] 26))) := (Keeps.refl [] w1).alloc _
 have hz2 : (w1.alloc (.cells #[.int .i64 k, .slice B lb cb, .string ⟨s.toArray⟩, .string ⟨v.toArray⟩] 26)).heap.size = w1.heap.size + 1 := by simp
 obtain ⟨W2, hW2⟩ : ∃ W, w1.alloc (.cells #[.int .i64 k, .slice B lb cb, .string ⟨s.toArray⟩, .string ⟨v.toArray⟩] 26) = W := ⟨_, rfl⟩
 rw [hW2] at HBF HK2 hz2
 obtain ⟨⟨z0, z1, z2, z3⟩, _⟩ := four_facts8 HBF.out
 have HS3 := Lib.hid (strs_lit W2 [[97, 110, 110, 97]] 1 #[.string ⟨#[97, 110, 110, 97]⟩] rfl rfl (by omega) (by simp))
 have HK3 : Hid (Keeps [] W2 (W2.alloc (.cells #[.string ⟨#[97, 110, 110, 97]⟩] 9))) := (Keeps.refl [] W2).alloc _
 obtain ⟨W3, hW3⟩ : ∃ W, W2.alloc (.cells #[.string ⟨#[97, 110, 110, 97]⟩] 9) = W := ⟨_, rfl⟩
 have hz3 : W3.heap.size = w1.heap.size + 1 + 1 := by rw [← hW3]; simp [hz2]
 rw [hW3, hz2] at HS3
 rw [hW3] at HK3
 have HE4 := Lib.hid (ents_lit W3 [⟨[99, 110], some ⟨w1.heap.size + 1, 0, none⟩, 1, 1, [[97, 110, 110, 97]]⟩] 1 #[.string ⟨#[99, 110]⟩, .slice (some ⟨w1.heap.size + 1, 0, none⟩) 1 1] rfl rfl (by omega) (fun a ha => by
  simp at ha
  subst ha
  exact ⟨by simp, by simp, by simp, HS3.out⟩))
 have HK4 : Hid (Keeps [] W3 (W3.alloc (.cells #[.string ⟨#[99, 110]⟩, .slice (some ⟨w1.heap.size + 1, 0, none⟩) 1 1] 70))) := (Keeps.refl [] W3).alloc _
 obtain ⟨W4, hW4⟩ : ∃ W, W3.alloc (.cells #[.string ⟨#[99, 110]⟩, .slice (some ⟨w1.heap.size + 1, 0, none⟩) 1 1] 70) = W := ⟨_, rfl⟩
 rw [hW4, hz3] at HE4
 rw [hW4] at HK4
 have HKX4 := Lib.hid (HK2.out.trans' (HK3.out.trans' HK4.out))
 have hM4 := means8_is ⟨some ⟨w1.heap.size + 1 + 1, 0, none⟩, 1, 1, none, 0, 0⟩ _ [] kF8 ⟨k, B, lb, cb, s, v⟩ W4 ⟨HE4.out, ⟨by simp, fun a ha => by simp at ha; subst ha; simp⟩, ⟨rfl, by simp, fun h => by cases h⟩, ⟨by simp, by simp⟩⟩ (HFA.out W4 HKX4.out)
 unfold MnsQ at hM4
 rw [show ents [⟨[99, 110], some ⟨w1.heap.size + 1, 0, none⟩, 1, 1, [[97, 110, 110, 97]]⟩] = kA8 from rfl, show ents [] = [] from rfl, known_meansA] at hM4
 unfold FH.val tv at hM4 ⊢
 dsimp only at hM4 ⊢
 have HM4 := Lib.hid hM4
 clear hM4
 go_wp2_with fail
 refine HM4.out.mono ?_
 rintro e w5 ⟨rfl, hk5⟩
 have HK5 := Lib.hid (HKX4.out.trans' hk5)
 obtain ⟨⟨y0, y1, y2, y3⟩, _⟩ := four_facts8 (blk_keep HBF.out (HK3.out.trans' (HK4.out.trans' hk5)) (by simp))
 clear hk5 hW2 hW3 hW4 hz2 hz3 HM4 HS3 HE4 z0 z1 z2 z3
 have HS6 := Lib.hid (strs_lit w5 [[97, 110, 110, 97]] 1 #[.string ⟨#[97, 110, 110, 97]⟩] rfl rfl (by omega) (by simp))
 have HK6 : Hid (Keeps [] w5 (w5.alloc (.cells #[.string ⟨#[97, 110, 110, 97]⟩] 9))) := (Keeps.refl [] w5).alloc _
 obtain ⟨W6, hW6⟩ : ∃ W, w5.alloc (.cells #[.string ⟨#[97, 110, 110, 97]⟩] 9) = W := ⟨_, rfl⟩
 have hz6 : W6.heap.size = w5.heap.size + 1 := by rw [← hW6]; simp
 rw [hW6] at HS6 HK6
 have HS7 := Lib.hid (strs_lit W6 [[120]] 1 #[.string ⟨#[120]⟩] rfl rfl (by omega) (by simp))
 have HK7 : Hid (Keeps [] W6 (W6.alloc (.cells #[.string ⟨#[120]⟩] 9))) := (Keeps.refl [] W6).alloc _
 obtain ⟨W7, hW7⟩ : ∃ W, W6.alloc (.cells #[.string ⟨#[120]⟩] 9) = W := ⟨_, rfl⟩
 have hz7 : W7.heap.size = w5.heap.size + 1 + 1 := by rw [← hW7]; simp [hz6]
 rw [hW7, hz6] at HS7
 rw [hW7] at HK7
 have HE8 := Lib.hid (ents_lit W7 [⟨[99, 110], some ⟨w5.heap.size, 0, none⟩, 1, 1, [[97, 110, 110, 97]]⟩, ⟨[109, 97, 105, 108], some ⟨w5.heap.size + 1, 0, none⟩, 1, 1, [[120]]⟩] 2 #[.string ⟨#[99, 110]⟩, .slice (some ⟨w5.heap.size, 0, none⟩) 1 1, .string ⟨#[109, 97, 105, 108]⟩, .slice (some ⟨w5.heap.size + 1, 0, none⟩) 1 1] rfl rfl (by omega) (fun a ha => by
  simp at ha
  rcases ha with rfl | rfl
  ·exact ⟨by simp, by simp, by simp, StrsIn.grow HK7.out HS6.out⟩
  ·exact ⟨by simp, by simp, by simp, HS7.out⟩))
 have HK8 : Hid (Keeps [] W7 (W7.alloc (.cells #[.string ⟨#[99, 110]⟩, .slice (some ⟨w5.heap.size, 0, none⟩) 1 1, .string ⟨#[109, 97, 105, 108]⟩, .slice (some ⟨w5.heap.size + 1, 0, none⟩) 1 1] 70))) := (Keeps.refl [] W7).alloc _
 obtain ⟨W8, hW8⟩ : ∃ W, W7.alloc (.cells #[.string ⟨#[99, 110]⟩, .slice (some ⟨w5.heap.size, 0, none⟩) 1 1, .string ⟨#[109, 97, 105, 108]⟩, .slice (some ⟨w5.heap.size + 1, 0, none⟩) 1 1] 70) = W := ⟨_, rfl⟩
 rw [hW8, hz7] at HE8
 rw [hW8] at HK8
 have HKX8 := Lib.hid (HK5.out.trans' (HK6.out.trans' (HK7.out.trans' HK8.out)))
 have HKY8 := Lib.hid (HK6.out.trans' (HK7.out.trans' HK8.out))
 have hM8 := means8_is ⟨some ⟨w5.heap.size + 1 + 1, 0, none⟩, 2, 2, none, 0, 0⟩ _ [] kF8 ⟨k, B, lb, cb, s, v⟩ W8 ⟨HE8.out, ⟨by simp, fun a ha => by simp at ha; rcases ha with rfl | rfl <;> simp⟩, ⟨rfl, by simp, fun h => by cases h⟩, ⟨by simp, by simp⟩⟩ (HFA.out W8 HKX8.out)
 unfold MnsQ at hM8
 rw [show ents [⟨[99, 110], some ⟨w5.heap.size, 0, none⟩, 1, 1, [[97, 110, 110, 97]]⟩, ⟨[109, 97, 105, 108], some ⟨w5.heap.size + 1, 0, none⟩, 1, 1, [[120]]⟩] = kB8 from rfl, show ents [] = [] from rfl, known_meansB] at hM8
 unfold FH.val tv at hM8
 dsimp only at hM8
 have HM8 := Lib.hid hM8
 clear hM8
 go_wp2_with fail
 refine HM8.out.mono ?_
 rintro e w9 ⟨rfl, hk9⟩
 have HK9 := Lib.hid (HKX8.out.trans' hk9)
 have y9 := fun (q : Nat) (u : Value) (hu : w5.cell? ⟨w1.heap.size, q, none⟩ = some u) => ((HKY8.out.trans' hk9).cell (lt_of_cell hu) (by simp)).trans hu
 have x0 := y9 0 _ y0
 have x1 := y9 1 _ y1
 have x2 := y9 2 _ y2
 have x3 := y9 3 _ y3
 have hT := text8_is kF8 ⟨k, B, lb, cb, s, v⟩ w9 (HG.out.keep (HK1.out.trans' HK9.out)) (HFA.out w9 HK9.out)
 unfold TxtQ9 at hT
 rw [known_text8] at hT
 unfold FH.val tv at hT
 dsimp only at hT
 rw [HKT.out] at hT
 have HT := Lib.hid hT
 clear hT hk9 hW6 hW7 hW8 hz6 hz7 HM8 HS6 HS7 HE8 y0 y1 y2 y3 y9
 go_wp2_with fail
 refine HT.out.mono ?_
 rintro e w10 ⟨rfl, hk10⟩
 have HK10 := Lib.hid (HK1.out.trans' (HK9.out.trans' hk10))
 clear hk10
 go_wp2_with fail
 go_ret
 exact ⟨by first | rfl | simp, HK10.out⟩
end Go.Proofs.YtbfebljahjmjfaaGreatDoor
/- filter: the law's entries; walked. -/
namespace Go.Proofs.YtbfebljahjmjfaaGreatDoor
open Go.RowKit Go.Shelf
set_option linter.unusedVariables false
set_option linter.unusedSimpArgs false
set_option maxRecDepth 100000

/-- What a light entry is. -/
def LightE8 (l : List At7) : Prop := l.length ≤ 30 ∧ ∀ a ∈ l, a.n ≤ 20 ∧ a.name.length ≤ 200 ∧ ∀ s ∈ a.vs, s.length ≤ 4000
theorem LightE8.few {l : List At7} (h : LightE8 l) (m : Nat) (hm : 30 ≤ m) : Few7 m l := ⟨by have := h.1; omega, fun a ha => by have := (h.2 a ha).1; omega⟩
end Go.Proofs.YtbfebljahjmjfaaGreatDoor
/- filter: the law FilterSame; walked. -/
namespace Go.Proofs.YtbfebljahjmjfaaGreatDoor
open Go.RowKit Go.Shelf
set_option linter.unusedVariables false
set_option linter.unusedSimpArgs false
set_option maxRecDepth 100000

theorem sameFL_refl : ∀ (l : List FV), (∀ t ∈ l, sameF t t = true) → sameFL l l = true
 | [], _ => by simp [sameFL]
 | x :: r, h => by
  simp only [sameFL]
  rw [h x (List.mem_cons_self ..), sameFL_refl r (fun t ht => h t (List.mem_cons_of_mem _ ht))]
  rfl
theorem sameF_refl : ∀ (t : FV), sameF t t = true := by
 intro t
 induction t using FV.ind with
 | h k l s v ih =>
  rw [sameF, sameFL_refl l ih]
  unfold likeH
  simp
end Go.Proofs.YtbfebljahjmjfaaGreatDoor
/- filter: the law FilterParses; walked (the document's one told). -/
namespace Go.Proofs.YtbfebljahjmjfaaGreatDoor
open Go.RowKit Go.Shelf
set_option linter.unusedVariables false
set_option linter.unusedSimpArgs false
set_option maxRecDepth 100000

theorem filAt_zero (X : World) : FilAt X (.mk 0 [] [] []) ⟨0, none, 0, 0, [], []⟩ := by
 unfold FilAt
 exact ⟨rfl, rfl, rfl, by decide, by decide, by simp, by simp, rfl, Nat.le_refl _, by decide, trivial⟩
/-- What the two Parses answer is alike. -/
def TwoQ (T : Txt) (b : Bool) (n : Int) (X : World) (ha hb : FH) : Prop :=
 ∃ ta tb, FilAt X ta ha ∧ FilAt X tb hb ∧ sameF ta tb = true ∧ (b = true ∧ n = 0 ∨ b = false ∧ n = 180 ∧ ha = ⟨0, none, 0, 0, [], []⟩ ∧ hb = ⟨0, none, 0, 0, [], []⟩)
set_option maxHeartbeats 8000000 in
theorem filterparses_of (T : Txt) (w : World) (hT : T.length ≤ 9223372036854775807) (hG : SgnAt w) (hs : SynAt w) (HONE : T.length ≤ 3000 → ∀ X, Calls Tryz.prog 32 #[tv T, .int .i64 0, .int .i64 1] X fun e w' => OnQ T 0 1 X e w') :
  Calls Tryz.prog 3 #[tv T] w fun e w' => e = .returned (.bool true) ∧ Keeps [] w w' := by
 have HKN := Lib.hid (fun X (hX : Keeps [] w X) => known8_is X (hG.keep hX) (hs.keep hX (by simp)))
 have HFP := Lib.hid (fun (h : T.length ≤ 3000) X (hX : Keeps [] w X) => fparse_is T X (by omega) (hG.keep hX) (hs.keep hX (by simp)))
 have HRP := Lib.hid (fun (h : T.length ≤ 3000) X => rparse8_of T X (by omega) (HONE h))
 have HRS := Lib.hid (fun ta tb ha hb X (hA : FilAt X ta ha) (hB : FilAt X tb hb) => rsame8_is ta tb ha hb X hA hB)
 obtain ⟨n, hn⟩ : ∃ n, T.length = n := ⟨_, rfl⟩
 have hsz : (⟨T.toArray⟩ : ByteArray).size = n := hn
 rw [hn] at hT HFP HRP
 clear hG hs HONE hn
 have HK0 := Lib.hid (Keeps.refl [] w)
 unfold tv at *
 go_enter Tryz.func3, Tryz.ntmps3
 by_cases h3 : n ≤ 3000
 rotate_left
 ·have h3i : ¬ (n : Int) ≤ 3000 := by omega
  have h3j : (3000 : Int) < (n : Int) := by omega
  go_wp2_with fail
  refine (HKN.out _ HK0.out).mono ?_
  rintro e w9 ⟨rfl, hk9⟩
  have HK9 := Lib.hid hk9
  clear hk9
  go_wp2_with fail
  go_ret
  exact ⟨by first | rfl | simp, HK9.out⟩
 ·have h3i : (n : Int) ≤ 3000 := by omega
  have h3j : ¬ (3000 : Int) < (n : Int) := by omega
  go_wp2_with fail
  refine (HFP.out h3 _ HK0.out).mono ?_
  intro e w1 hq1
  have hq1' : ∃ ha : FH, ∃ x : Int, e = .returned (.tuple #[FH.val ha, .int .i64 x]) ∧ ((∃ t, parseF T = some t ∧ x = 0 ∧ FilAt w1 t ha) ∨ parseF T = none ∧ x = 180 ∧ ha = ⟨0, none, 0, 0, [], []⟩) := by
   rcases hq1.1 with ⟨t, h, h1, h2, h4⟩ | ⟨h1, h2⟩
   ·exact ⟨h, 0, h2, .inl ⟨t, h1, rfl, h4⟩⟩
   ·exact ⟨_, 180, h2, .inr ⟨h1, rfl, rfl⟩⟩
  have hk1 := hq1.2
  clear hq1
  obtain ⟨ha, x, rfl, hcA⟩ := hq1'
  have HCA := Lib.hid hcA
  obtain ⟨k, B, lb, cb, s, v⟩ := ha
  have HKA : Hid (Keeps [] w1 (w1.alloc (.cells #[.int .i64 k, .slice B lb cb, .string ⟨s.toArray⟩, .string ⟨v.toArray⟩] 26))) := (Keeps.refl [] w1).alloc _
  have HXA := Lib.hid (heap_new8 w1 (.cells #[.int .i64 k, .slice B lb cb, .string ⟨s.toArray⟩, .string ⟨v.toArray⟩] 26))
  have HK1 := Lib.hid (hk1.trans' HKA.out)
  clear hcA hk1
  unfold FH.val tv at *
  dsimp only at *
  go_wp2_with fail
  refine (HRP.out h3 _).mono ?_
  intro e w2 hq2
  have hq2' : ∃ hb : FH, ∃ y : Bool, e = .returned (.tuple #[FH.val hb, .bool y]) ∧ TwoQ T y x w2 ⟨k, B, lb, cb, s, v⟩ hb := by
   have hkk := hq2.2.2
   rcases HCA.out with ⟨t, h1, rfl, h4⟩ | ⟨h1, rfl, h5⟩
   ·rw [← parse_same] at h1
    obtain ⟨hb, h6, h7⟩ := hq2.1 t h1
    exact ⟨hb, true, h6, t, t, FilAt.grow (HKA.out.trans' hkk) t _ h4, h7, sameF_refl t, .inl ⟨rfl, rfl⟩⟩
   ·rw [← parse_same] at h1
    exact ⟨_, false, hq2.2.1 h1, .mk 0 [] [] [], .mk 0 [] [] [], by rw [h5]; exact filAt_zero _, filAt_zero _, sameF_refl _, .inr ⟨rfl, rfl, h5, rfl⟩⟩
  have hk2 := hq2.2.2
  clear hq2
  obtain ⟨hb, y, rfl, ta, tb, hA, hB, hsm, hyx⟩ := hq2'
  obtain ⟨k', B', lb', cb', s', v'⟩ := hb
  have hkb := hk2.alloc (.cells #[.int .i64 k', .slice B' lb' cb', .string ⟨s'.toArray⟩, .string ⟨v'.toArray⟩] 26)
  have HKB : Hid (Keeps [] w2 (w2.alloc (.cells #[.int .i64 k', .slice B' lb' cb', .string ⟨s'.toArray⟩, .string ⟨v'.toArray⟩] 26))) := (Keeps.refl [] w2).alloc _
  have HXA2 := Lib.hid (blk_keep HXA.out hkb (by simp))
  have HXB2 := Lib.hid (heap_new8 w2 (.cells #[.int .i64 k', .slice B' lb' cb', .string ⟨s'.toArray⟩, .string ⟨v'.toArray⟩] 26))
  have HK2 := Lib.hid (HK1.out.trans' hkb)
  have HCALL := Lib.hid (HRS.out ta tb ⟨k, B, lb, cb, s, v⟩ ⟨k', B', lb', cb', s', v'⟩ _ (FilAt.grow HKB.out ta _ hA) (FilAt.grow HKB.out tb _ hB))
  rw [hsm] at HCALL
  obtain ⟨⟨z0, z1, z2, z3⟩, _⟩ := four_facts8 HXA2.out
  obtain ⟨⟨y0, y1, y2, y3⟩, _⟩ := four_facts8 HXB2.out
  clear hk2 hkb hA hB hsm
  unfold FH.val tv at *
  dsimp only at *
  rcases hyx with ⟨rfl, rfl⟩ | ⟨rfl, rfl, h5, h6⟩
  ·go_wp2_with fail
   refine HCALL.out.mono ?_
   rintro e w3 ⟨rfl, hk3⟩
   have HK3 := Lib.hid (HK2.out.trans' hk3)
   clear hk3
   go_wp2_with fail
   refine (HKN.out _ HK3.out).mono ?_
   rintro e w9 ⟨rfl, hk9⟩
   have HK9 := Lib.hid (HK3.out.trans' hk9)
   clear hk9
   go_wp2_with fail
   go_ret
   exact ⟨by first | rfl | simp, HK9.out⟩
  ·injection h5 with h5 q1 q2 q3 q4 q5
   subst h5 q1 q2 q3 q4 q5
   injection h6 with h6 q1 q2 q3 q4 q5
   subst h6 q1 q2 q3 q4 q5
   go_wp2_with fail
   refine HCALL.out.mono ?_
   rintro e w3 ⟨rfl, hk3⟩
   have HK3 := Lib.hid (HK2.out.trans' hk3)
   clear hk3
   go_wp2_with fail
   refine (HKN.out _ HK3.out).mono ?_
   rintro e w9 ⟨rfl, hk9⟩
   have HK9 := Lib.hid (HK3.out.trans' hk9)
   clear hk9
   go_wp2_with fail
   go_ret
   exact ⟨by first | rfl | simp, HK9.out⟩
end Go.Proofs.YtbfebljahjmjfaaGreatDoor
