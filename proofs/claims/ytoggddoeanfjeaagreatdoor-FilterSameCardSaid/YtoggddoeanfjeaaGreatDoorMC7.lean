/- Texts of one proof, laid together: F44 F45. -/
import Derived.Test.YtoggddoeanfjeaaGreatDoorMB7
import Derived.BigQuiet
import Derived.Test.YtoggddoeanfjeaaGreatDoorMC6
import Derived.Test.YtoggddoeanfjeaaGreatDoorMB9
/- filter: literals in memory (as in W7, W33). -/
namespace Go.Proofs.YtoggddoeanfjeaaGreatDoor
open Go.RowKit Go.Shelf
set_option linter.unusedVariables false
set_option linter.unusedSimpArgs false
set_option maxRecDepth 100000

def At7.val (a : At7) : Value := .slice a.A a.n a.c
def atCells (l : List At7) : List Value := l.flatMap fun a => [tv a.name, a.val]
theorem atCells_len (l : List At7) : (atCells l).length = l.length * 2 := by
  unfold atCells
  induction l with
  | nil => rfl
  | cons p r ih => simp only [List.flatMap_cons, List.length_append, ih, List.length_cons, List.length_nil]; omega
theorem atCells_at : ∀ (l : List At7) (i : Nat) (a : At7), l[i]? = some a → (atCells l)[i * 2]? = some (tv a.name) ∧ (atCells l)[i * 2 + 1]? = some a.val
  | [], i, p, h => by simp at h
  | q :: r, 0, p, h => by simp at h; subst h; simp [atCells]
  | q :: r, i + 1, p, h => by
    have ih := atCells_at r i p (by simpa using h)
    have e : atCells (q :: r) = tv q.name :: q.val :: atCells r := rfl
    rw [e, show (i + 1) * 2 = i * 2 + 1 + 1 by omega]
    simpa using ih
theorem EntIn.of_own {w : World} {B n c : Nat} {A : Option Addr} {t : TypeId} {l : List At7} (h : w.ownsRow B t 2 (.slice A n c) n (atCells l)) (hn : l.length = n) (hl : ∀ a ∈ l, a.fits w) : EntIn w A n l := by
  refine ⟨hn, hl, fun hp => ?_⟩
  rcases h.2 with ⟨_, h2⟩ | ⟨g, cap, cur, hA, hg, hh, r⟩
  · exfalso; omega
  · injection hA with e1 e2 e3
    subst e1
    refine ⟨g, 0, rfl, fun i a hi => ?_⟩
    obtain ⟨d1, d2⟩ := atCells_at l i a hi
    have c1 := h.cells (g := g) rfl (i * 2) _ d1
    have c2 := h.cells (g := g) rfl (i * 2 + 1) _ d2
    rw [show (⟨g, 0, none⟩ : Addr).add (i * 2) = ⟨g, 0 + i * 2, none⟩ from by unfold Addr.add; split <;> simp_all] at c1
    rw [show (⟨g, 0, none⟩ : Addr).add (i * 2 + 1) = ⟨g, 0 + i * 2 + 1, none⟩ from by unfold Addr.add; split <;> simp_all <;> omega] at c2
    exact ⟨c1, c2⟩
theorem strs_lit (w : World) (l : List Txt) (n : Nat) (cs : Array Value) (hc : cs = (l.map tv).toArray) (hn : l.length = n) (hm : n ≤ 1000) (ht : ∀ s ∈ l, s.length ≤ 1000) : StrsIn (w.alloc (.cells cs 9)) (some ⟨w.heap.size, 0, none⟩) n l := by
  subst hc
  have h := World.ownsRow_lit (base := w.heap.size) (e := 9) (size := 1) w (l.map tv).toArray n (Nat.le_refl _) (by unfold maxLen; omega) (by simp [hn])
  exact StrsIn.of_own (by simpa using h) hn (fun s hs => by have := ht s hs; omega)
theorem ents_lit (w : World) (l : List At7) (n : Nat) (cs : Array Value) (hc : cs = (atCells l).toArray) (hn : l.length = n) (hm : n ≤ 1000) (hf : ∀ a ∈ l, a.fits w) : EntIn (w.alloc (.cells cs 55)) (some ⟨w.heap.size, 0, none⟩) n l := by
  subst hc
  have h := World.ownsRow_lit (base := w.heap.size) (e := 55) (size := 2) w (atCells l).toArray n (Nat.le_refl _) (by unfold maxLen; omega) (by simp [atCells_len, hn])
  exact EntIn.of_own (by simpa using h) hn (fun a ha => (hf a ha).grow ((Keeps.refl [] w).alloc _))
theorem few_of {L : List At7} {E : List Att} (h : ents L = E) (hv : ∀ a ∈ L, a.vs.length = a.n) (h1 : E.length ≤ 1000) (h2 : ∀ x ∈ E, x.2.length ≤ 1000) : Few7 1000 L := by
  refine ⟨by rw [← ents_len, h]; exact h1, fun a ha => ?_⟩
  rw [← hv a ha]
  exact h2 a.att (by rw [← h]; unfold ents; exact List.mem_map_of_mem ha)
end Go.Proofs.YtoggddoeanfjeaaGreatDoor
/- filter: the law's known; walked. -/
namespace Go.Proofs.YtoggddoeanfjeaaGreatDoor
open Go.RowKit Go.Shelf
set_option linter.unusedVariables false
set_option linter.unusedSimpArgs false
set_option maxRecDepth 100000

def kT8 : Txt := [40, 38, 40, 99, 110, 61, 65, 42, 41, 40, 33, 40, 109, 97, 105, 108, 61, 42, 41, 41, 41]
def kF8 : FV := .mk 1 [.mk 5 [] [99, 110] [65], .mk 3 [.mk 6 [] [109, 97, 105, 108] []] [] []] [] []
def kA8 : List Att := [([99, 110], [[97, 110, 110, 97]])]
def kB8 : List Att := [([99, 110], [[97, 110, 110, 97]]), ([109, 97, 105, 108], [[120]])]
theorem r_one8 (a : Txt) : Rise [a] := by simp [Rise]
theorem r_cm8 : Rise [[99, 110], [109, 97, 105, 108]] := by unfold Rise; decide +kernel
theorem ord_one8 (a : Txt) : ordS [a] = [a] := ordS_rise (r_one8 a)
theorem ord_cm8 : ordS [[99, 110], [109, 97, 105, 108]] = [[99, 110], [109, 97, 105, 108]] := ordS_rise r_cm8
theorem ord_nil8 : ordS [] = [] := ordS_rise (by simp [Rise])
theorem okA8 : entOk kA8 = true := by
  unfold entOk
  rw [show namesT kA8 = [[99, 110]] from rfl, ord_one8]
  unfold kA8 oneOk attrOk
  simp only [List.all_cons, List.all_nil, ord_one8]
  decide +kernel
theorem okB8 : entOk kB8 = true := by
  unfold entOk
  rw [show namesT kB8 = [[99, 110], [109, 97, 105, 108]] from rfl, ord_cm8]
  unfold kB8 oneOk attrOk
  simp only [List.all_cons, List.all_nil, ord_one8]
  decide +kernel
theorem stands_plain {e : List Att} : standsP e [] = entOk e := by
  unfold standsP
  rw [show namesT [] = [] from rfl, ord_nil8]
  simp
theorem known_parse8 : parseF kT8 = some kF8 := by kernel_rfl
theorem known_right8 : rightF kF8 = true := by kernel_rfl
theorem known_meansA : meansP kA8 [] kF8 = (true, 0) := by
  unfold meansP
  rw [stands_plain, okA8, known_right8, if_pos ⟨rfl, rfl⟩]
  kernel_rfl
theorem known_meansB : meansP kB8 [] kF8 = (false, 0) := by
  unfold meansP
  rw [stands_plain, okB8, known_right8, if_pos ⟨rfl, rfl⟩]
  kernel_rfl
theorem known_text8 : ftextP kF8 = (kT8, 0) := by kernel_rfl
set_option maxHeartbeats 8000000 in
theorem known8_is (w : World) (hG : SgnAt w) (hs : SynAt w) : Calls Tryz.prog 12 #[] w fun e w' => e = .returned (.bool true) ∧ Keeps [] w w' := by
  have HPR : Hid (Calls Tryz.prog 18 #[.string ⟨#[40, 38, 40, 99, 110, 61, 65, 42, 41, 40, 33, 40, 109, 97, 105, 108, 61, 42, 41, 41, 41]⟩] w (PrsQ kT8 w)) := fparse_is kT8 w (by decide) hG hs
  have HG := Lib.hid hG
  have HKT := Lib.hid (show (⟨kT8.toArray⟩ : ByteArray) = ⟨#[40, 38, 40, 99, 110, 61, 65, 42, 41, 40, 33, 40, 109, 97, 105, 108, 61, 42, 41, 41, 41]⟩ from rfl)
  clear hG hs
  go_enter Tryz.func12, Tryz.ntmps12
  go_wp2_with fail
  refine HPR.out.mono ?_
  rintro e w1 ⟨⟨t, h, hp, rfl, hf⟩ | ⟨hp, _⟩, hk1⟩
  rotate_left
  · rw [known_parse8] at hp; cases hp
  rw [known_parse8] at hp
  injection hp with hp
  subst hp
  have HK1 := Lib.hid hk1
  have HF1 := Lib.hid hf
  clear hk1 hf HPR
  have HFA := Lib.hid (fun X (hX : Keeps [] w1 X) => FilAt.grow hX kF8 h HF1.out)
  obtain ⟨k, B, lb, cb, s, v⟩ := h
  have HBF := Lib.hid (heap_new8 w1 (.cells #[.int .i64 k, .slice B lb cb, .string ⟨s.toArray⟩, .string ⟨v.toArray⟩] 25))
  have HK2 : Hid (Keeps [] w1 (w1.alloc (.cells #[.int .i64 k, .slice B lb cb, .string ⟨s.toArray⟩, .string ⟨v.toArray⟩] 25))) := (Keeps.refl [] w1).alloc _
  have hz2 : (w1.alloc (.cells #[.int .i64 k, .slice B lb cb, .string ⟨s.toArray⟩, .string ⟨v.toArray⟩] 25)).heap.size = w1.heap.size + 1 := by simp
  obtain ⟨W2, hW2⟩ : ∃ W, w1.alloc (.cells #[.int .i64 k, .slice B lb cb, .string ⟨s.toArray⟩, .string ⟨v.toArray⟩] 25) = W := ⟨_, rfl⟩
  rw [hW2] at HBF HK2 hz2
  obtain ⟨⟨z0, z1, z2, z3⟩, _⟩ := four_facts8 HBF.out
  have HS3 := Lib.hid (strs_lit W2 [[97, 110, 110, 97]] 1 #[.string ⟨#[97, 110, 110, 97]⟩] rfl rfl (by omega) (by simp))
  have HK3 : Hid (Keeps [] W2 (W2.alloc (.cells #[.string ⟨#[97, 110, 110, 97]⟩] 9))) := (Keeps.refl [] W2).alloc _
  obtain ⟨W3, hW3⟩ : ∃ W, W2.alloc (.cells #[.string ⟨#[97, 110, 110, 97]⟩] 9) = W := ⟨_, rfl⟩
  have hz3 : W3.heap.size = w1.heap.size + 1 + 1 := by rw [← hW3]; simp [hz2]
  rw [hW3, hz2] at HS3
  rw [hW3] at HK3
  have HE4 := Lib.hid (ents_lit W3 [⟨[99, 110], some ⟨w1.heap.size + 1, 0, none⟩, 1, 1, [[97, 110, 110, 97]]⟩] 1 #[.string ⟨#[99, 110]⟩, .slice (some ⟨w1.heap.size + 1, 0, none⟩) 1 1] rfl rfl (by omega) (fun a ha => by
    simp at ha
    subst ha
    exact ⟨by simp, by simp, by simp, HS3.out⟩))
  have HK4 : Hid (Keeps [] W3 (W3.alloc (.cells #[.string ⟨#[99, 110]⟩, .slice (some ⟨w1.heap.size + 1, 0, none⟩) 1 1] 55))) := (Keeps.refl [] W3).alloc _
  obtain ⟨W4, hW4⟩ : ∃ W, W3.alloc (.cells #[.string ⟨#[99, 110]⟩, .slice (some ⟨w1.heap.size + 1, 0, none⟩) 1 1] 55) = W := ⟨_, rfl⟩
  rw [hW4, hz3] at HE4
  rw [hW4] at HK4
  have HKX4 := Lib.hid (HK2.out.trans' (HK3.out.trans' HK4.out))
  have hM4 := means8_is ⟨some ⟨w1.heap.size + 1 + 1, 0, none⟩, 1, 1, none, 0, 0⟩ _ [] kF8 ⟨k, B, lb, cb, s, v⟩ W4 ⟨HE4.out, ⟨by simp, fun a ha => by simp at ha; subst ha; simp⟩, ⟨rfl, by simp, fun h => by cases h⟩, ⟨by simp, by simp⟩⟩ (HFA.out W4 HKX4.out)
  unfold MnsQ at hM4
  rw [show ents [⟨[99, 110], some ⟨w1.heap.size + 1, 0, none⟩, 1, 1, [[97, 110, 110, 97]]⟩] = kA8 from rfl, show ents [] = [] from rfl, known_meansA] at hM4
  unfold FH.val tv at hM4 ⊢
  dsimp only at hM4 ⊢
  have HM4 := Lib.hid hM4
  clear hM4
  go_wp2_with fail
  refine HM4.out.mono ?_
  rintro e w5 ⟨rfl, hk5⟩
  have HK5 := Lib.hid (HKX4.out.trans' hk5)
  obtain ⟨⟨y0, y1, y2, y3⟩, _⟩ := four_facts8 (blk_keep HBF.out (HK3.out.trans' (HK4.out.trans' hk5)) (by simp))
  clear hk5 hW2 hW3 hW4 hz2 hz3 HM4 HS3 HE4 z0 z1 z2 z3
  have HS6 := Lib.hid (strs_lit w5 [[97, 110, 110, 97]] 1 #[.string ⟨#[97, 110, 110, 97]⟩] rfl rfl (by omega) (by simp))
  have HK6 : Hid (Keeps [] w5 (w5.alloc (.cells #[.string ⟨#[97, 110, 110, 97]⟩] 9))) := (Keeps.refl [] w5).alloc _
  obtain ⟨W6, hW6⟩ : ∃ W, w5.alloc (.cells #[.string ⟨#[97, 110, 110, 97]⟩] 9) = W := ⟨_, rfl⟩
  have hz6 : W6.heap.size = w5.heap.size + 1 := by rw [← hW6]; simp
  rw [hW6] at HS6 HK6
  have HS7 := Lib.hid (strs_lit W6 [[120]] 1 #[.string ⟨#[120]⟩] rfl rfl (by omega) (by simp))
  have HK7 : Hid (Keeps [] W6 (W6.alloc (.cells #[.string ⟨#[120]⟩] 9))) := (Keeps.refl [] W6).alloc _
  obtain ⟨W7, hW7⟩ : ∃ W, W6.alloc (.cells #[.string ⟨#[120]⟩] 9) = W := ⟨_, rfl⟩
  have hz7 : W7.heap.size = w5.heap.size + 1 + 1 := by rw [← hW7]; simp [hz6]
  rw [hW7, hz6] at HS7
  rw [hW7] at HK7
  have HE8 := Lib.hid (ents_lit W7 [⟨[99, 110], some ⟨w5.heap.size, 0, none⟩, 1, 1, [[97, 110, 110, 97]]⟩, ⟨[109, 97, 105, 108], some ⟨w5.heap.size + 1, 0, none⟩, 1, 1, [[120]]⟩] 2 #[.string ⟨#[99, 110]⟩, .slice (some ⟨w5.heap.size, 0, none⟩) 1 1, .string ⟨#[109, 97, 105, 108]⟩, .slice (some ⟨w5.heap.size + 1, 0, none⟩) 1 1] rfl rfl (by omega) (fun a ha => by
    simp at ha
    rcases ha with rfl | rfl
    · exact ⟨by simp, by simp, by simp, StrsIn.grow HK7.out HS6.out⟩
    · exact ⟨by simp, by simp, by simp, HS7.out⟩))
  have HK8 : Hid (Keeps [] W7 (W7.alloc (.cells #[.string ⟨#[99, 110]⟩, .slice (some ⟨w5.heap.size, 0, none⟩) 1 1, .string ⟨#[109, 97, 105, 108]⟩, .slice (some ⟨w5.heap.size + 1, 0, none⟩) 1 1] 55))) := (Keeps.refl [] W7).alloc _
  obtain ⟨W8, hW8⟩ : ∃ W, W7.alloc (.cells #[.string ⟨#[99, 110]⟩, .slice (some ⟨w5.heap.size, 0, none⟩) 1 1, .string ⟨#[109, 97, 105, 108]⟩, .slice (some ⟨w5.heap.size + 1, 0, none⟩) 1 1] 55) = W := ⟨_, rfl⟩
  rw [hW8, hz7] at HE8
  rw [hW8] at HK8
  have HKX8 := Lib.hid (HK5.out.trans' (HK6.out.trans' (HK7.out.trans' HK8.out)))
  have HKY8 := Lib.hid (HK6.out.trans' (HK7.out.trans' HK8.out))
  have hM8 := means8_is ⟨some ⟨w5.heap.size + 1 + 1, 0, none⟩, 2, 2, none, 0, 0⟩ _ [] kF8 ⟨k, B, lb, cb, s, v⟩ W8 ⟨HE8.out, ⟨by simp, fun a ha => by simp at ha; rcases ha with rfl | rfl <;> simp⟩, ⟨rfl, by simp, fun h => by cases h⟩, ⟨by simp, by simp⟩⟩ (HFA.out W8 HKX8.out)
  unfold MnsQ at hM8
  rw [show ents [⟨[99, 110], some ⟨w5.heap.size, 0, none⟩, 1, 1, [[97, 110, 110, 97]]⟩, ⟨[109, 97, 105, 108], some ⟨w5.heap.size + 1, 0, none⟩, 1, 1, [[120]]⟩] = kB8 from rfl, show ents [] = [] from rfl, known_meansB] at hM8
  unfold FH.val tv at hM8
  dsimp only at hM8
  have HM8 := Lib.hid hM8
  clear hM8
  go_wp2_with fail
  refine HM8.out.mono ?_
  rintro e w9 ⟨rfl, hk9⟩
  have HK9 := Lib.hid (HKX8.out.trans' hk9)
  have y9 := fun (q : Nat) (u : Value) (hu : w5.cell? ⟨w1.heap.size, q, none⟩ = some u) => ((HKY8.out.trans' hk9).cell (lt_of_cell hu) (by simp)).trans hu
  have x0 := y9 0 _ y0
  have x1 := y9 1 _ y1
  have x2 := y9 2 _ y2
  have x3 := y9 3 _ y3
  have hT := text8_is kF8 ⟨k, B, lb, cb, s, v⟩ w9 (HG.out.keep (HK1.out.trans' HK9.out)) (HFA.out w9 HK9.out)
  unfold TxtQ9 at hT
  rw [known_text8] at hT
  unfold FH.val tv at hT
  dsimp only at hT
  rw [HKT.out] at hT
  have HT := Lib.hid hT
  clear hT hk9 hW6 hW7 hW8 hz6 hz7 HM8 HS6 HS7 HE8 y0 y1 y2 y3 y9
  go_wp2_with fail
  refine HT.out.mono ?_
  rintro e w10 ⟨rfl, hk10⟩
  have HK10 := Lib.hid (HK1.out.trans' (HK9.out.trans' hk10))
  clear hk10
  go_wp2_with fail
  go_ret
  exact ⟨by first | rfl | simp, HK10.out⟩
end Go.Proofs.YtoggddoeanfjeaaGreatDoor
