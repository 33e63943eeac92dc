
/- dn: cutter; valueOf's closure; walked. -/
import Derived.Test.YtjnibkgbcgpigaaDoorN22
import Derived.StillTailTactics
namespace Go.Proofs.YtjnibkgbcgpigaaDoor
open Go.RowKit Go.Shelf
set_option linter.unusedVariables false
set_option linter.unusedSimpArgs false
set_option maxRecDepth 100000

theorem two_news {w : World} {t1 t2 : TypeId} {v1 v2 : Value} : Box1 ((w.alloc (.cells #[v1] t1)).alloc (.cells #[v2] t2)) w.heap.size t1 v1 ∧ Box1 ((w.alloc (.cells #[v1] t1)).alloc (.cells #[v2] t2)) (w.heap.size + 1) t2 v2 := by
  have h1 : (w.alloc (.cells #[v1] t1)).heap[w.heap.size]? = some (.cells #[v1] t1 (0, 0)) := heap_new8 w _
  have h2 : ((w.alloc (.cells #[v1] t1)).alloc (.cells #[v2] t2)).heap[(w.alloc (.cells #[v1] t1)).heap.size]? = some (.cells #[v2] t2 (0, 0)) := heap_new8 _ _
  refine ⟨blk_keep h1 ((Keeps.refl [] _).alloc _) (by simp), ?_⟩
  rw [show (w.alloc (.cells #[v1] t1)).heap.size = w.heap.size + 1 by simp only [World.alloc, Array.size_push]] at h2
  exact h2

theorem cutter_is (T : List UInt8) (w : World) : Calls Tryd.prog 55 #[.string ⟨T.toArray⟩] w fun e w' => ∃ p g, e = .returned (.func (.func 63) #[] #[.pointer (some ⟨p, 0, none⟩), .pointer (some ⟨g, 0, none⟩)]) ∧ Box1 w' p 3 (.int .i64 ((0 : Nat) : Int)) ∧ Box1 w' g 9 (.string ⟨T.toArray⟩) ∧ g ≠ p ∧ w.heap.size ≤ p ∧ w.heap.size ≤ g ∧ Keeps [] w w' := by
  have H2 := Lib.hid (two_news (w := w) (t1 := 9) (t2 := 3) (v1 := .string ⟨T.toArray⟩) (v2 := .int .i64 ((0 : Nat) : Int)))
  have HK : Hid (Keeps [] w ((w.alloc (.cells #[.string ⟨T.toArray⟩] 9)).alloc (.cells #[.int .i64 ((0 : Nat) : Int)] 3))) := ((Keeps.refl [] w).alloc _).alloc _
  go_enter Tryd.func55, Tryd.ntmps55
  go_wp2_with fail
  go_ret
  exact ⟨w.heap.size + 1, w.heap.size, rfl, H2.out.2, H2.out.1, by omega, by omega, Nat.le_refl _, HK.out⟩

theorem next_byte (T : List UInt8) (p g k : Nat) (w : World) (hl : T.length ≤ 9000000000000000000) (hp : Box1 w p 3 (.int .i64 (k : Int))) (hg : Box1 w g 9 (.string ⟨T.toArray⟩)) (hpg : g ≠ p) (u : UInt8) (hu : T[k]? = some u) :
    Calls Tryd.prog 64 #[.pointer (some ⟨p, 0, none⟩), .pointer (some ⟨g, 0, none⟩)] w fun e w' => e = .returned (.int .u8 (u.toNat : Int)) ∧ Box1 w' p 3 (.int .i64 ((k + 1 : Nat) : Int)) ∧ Keeps [p] w w' := by
  have hk := (List.getElem?_eq_some_iff.1 hu).1
  have hix := str_at T k u hu
  have hul : u.toNat < 256 := u.toNat_lt
  have HB2 := Lib.hid (hp.set (.int .i64 ((k : Int) + 1)))
  have HK2 := Lib.hid ((Keeps.refl [p] w).setCell (p := ⟨p, 0, none⟩) (.inl (by simp)) (.int .i64 ((k : Int) + 1)))
  have c0 := hp.cell
  have z0 := hp.free
  have c1 := hg.cell
  have c2 := (hg.keep HK2.out (by simpa using hpg)).cell
  have hlt : (k : Int) < (T.length : Int) := by omega
  have hwr : wrap64 ((k : Int) + 1) = (k : Int) + 1 := by unfold wrap64; omega
  have hwk : wrap64 (k : Int) = (k : Int) := by unfold wrap64; omega
  have HM := Lib.hid (fun X => must_is true X)
  obtain ⟨L, hL⟩ : ∃ L, T.length = L := ⟨_, rfl⟩
  rw [hL] at hlt
  have hTL : (⟨T.toArray⟩ : ByteArray).size = L := hL
  clear hu hp hg hpg hL hk hl
  go_enter Tryd.func64, Tryd.ntmps64
  go_wp2_with fail
  refine (HM.out _).mono ?_
  rintro e w1 ⟨h, rfl⟩
  rcases h with ⟨_, rfl⟩ | ⟨h, _⟩
  · go_wp2_with fail
    go_ret
    exact ⟨rfl, HB2.out, HK2.out⟩
  · cases h

theorem next_none (T : List UInt8) (p g k : Nat) (w : World) (hp : Box1 w p 3 (.int .i64 (k : Int))) (hg : Box1 w g 9 (.string ⟨T.toArray⟩)) (hk : T.length ≤ k) :
    Calls Tryd.prog 64 #[.pointer (some ⟨p, 0, none⟩), .pointer (some ⟨g, 0, none⟩)] w fun e w' => e = gaveUp 160 ∧ w = w' := by
  have c0 := hp.cell
  have z0 := hp.free
  have c1 := hg.cell
  have hlt : ¬ (k : Int) < (T.length : Int) := by omega
  have HM := Lib.hid (fun X => must_is false X)
  obtain ⟨L, hL⟩ : ∃ L, T.length = L := ⟨_, rfl⟩
  rw [hL] at hlt
  have hTL : (⟨T.toArray⟩ : ByteArray).size = L := hL
  clear hp hg hL hk
  go_enter Tryd.func64, Tryd.ntmps64
  go_wp2_with fail
  refine (HM.out _).mono ?_
  rintro e w1 ⟨h, rfl⟩
  rcases h with ⟨h, _⟩ | ⟨_, rfl⟩
  · cases h
  · go_wp2_with fail
    first
      | exact ⟨rfl, rfl⟩
      | exact ⟨rfl, rfl, rfl⟩

end Go.Proofs.YtjnibkgbcgpigaaDoor
