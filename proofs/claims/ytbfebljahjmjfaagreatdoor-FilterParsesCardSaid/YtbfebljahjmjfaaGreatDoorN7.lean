
/- dn: what may be, of some names; Check; walked. -/
import Derived.Test.YtbfebljahjmjfaaGreatDoorN6
namespace Go.Proofs.YtbfebljahjmjfaaGreatDoor
open Go.RowKit Go.Shelf
set_option linter.unusedVariables false
set_option linter.unusedSimpArgs false
set_option maxRecDepth 100000

/-- A name as a slice in memory. -/
structure Nm where
  A : Option Addr
  n : Nat
  c : Nat
  d : List Part6
def Nm.val (m : Nm) : Value := .slice m.A m.n m.c
def Nm.In (m : Nm) (w : World) : Prop := m.n ≤ 4611686018427387904 ∧ DnIn w m.A m.n m.d
theorem Nm.In.grow {m : Nm} {w w' : World} (hk : Keeps [] w w') (h : m.In w) : m.In w' := ⟨h.1, h.2.grow hk⟩

/-- Names in a row. -/
def NmsIn (w : World) (b : Nat) (l : List Nm) : Prop := ∀ (i : Nat) (m : Nm), l[i]? = some m → w.cell? ⟨b, i, none⟩ = some m.val ∧ m.In w
theorem NmsIn.grow {w w' : World} {b : Nat} {l : List Nm} (hk : Keeps [] w w') (h : NmsIn w b l) : NmsIn w' b l := fun i m hi => by
  obtain ⟨h1, h2⟩ := h i m hi
  exact ⟨(hk.cell (lt_of_cell h1) (by simp)).trans h1, h2.grow hk⟩

theorem eachd_is (b n : Nat) (l : List Nm) (w : World) (hl : l.length = n) (hn : n ≤ 4611686018427387904) (h : NmsIn w b l) :
    Calls Tryz.prog 268 #[.slice (some ⟨b, 0, none⟩) n n, .func (.func 269) #[] #[]] w fun e w' => e = .returned (.bool (l.all fun m => nameOk m.d)) ∧ Keeps [] w w' := by
  have HD := Lib.hid h
  have HL := Lib.hid hl
  clear h hl
  go_enter Tryz.func268, Tryz.ntmps268
  go_wp2_with fail
  go_loopw [9] (fun i wr => ∃ j : Nat, i = .int .i64 (j : Int) ∧ j ≤ n ∧ Hid ((l.take j).all (fun m => nameOk m.d) = true) ∧ Hid (Keeps [] w wr)) (fun i _ => n - (intOf i).toNat)
  case atStart => exact ⟨0, rfl, Nat.zero_le _, rfl, Keeps.refl _ _⟩
  case round =>
    obtain ⟨j, rfl, hj, HA, HKR⟩ := hrel
    by_cases hlt : j < n
    · obtain ⟨m, hu⟩ : ∃ m, l[j]? = some m := ⟨_, List.getElem?_eq_getElem (by have := HL.out; omega)⟩
      obtain ⟨c0, hin⟩ := (HD.out.grow HKR.out) j m hu
      have HM := Lib.hid (fun X (hk : Keeps [] wr X) => maybeone6_is m.A m.n m.c m.d X hin.1 (hin.2.grow hk))
      have HT := Lib.hid (all_take2 (p := fun m : Nm => nameOk m.d) hu)
      have HC := Lib.hid (fun h => all_cut2 (p := fun m : Nm => nameOk m.d) hu h)
      obtain ⟨r, hr⟩ : ∃ r, nameOk m.d = r := ⟨_, rfl⟩
      rw [hr] at HM
      rw [hr] at HT HC
      obtain ⟨A1, n1, c1, d1⟩ := m
      unfold Nm.val at c0
      dsimp only at c0 HM
      clear hu hr hin
      go_wp2_with fail
      refine (HM.out wr (Keeps.refl _ _)).mono ?_
      rintro e w1 ⟨rfl, hk1⟩
      have HK1 := Lib.hid (HKR.out.trans' hk1)
      clear hk1
      cases r
      · go_wp2_with fail
        go_ret
        exact ⟨by rw [HC.out (by first | exact trivial | rfl)]; rfl, HK1.out⟩
      · go_wp2_with fail
        go_roundw
        case rel => exact ⟨j + 1, by go_num, by omega, by show _ = _; rw [HT.out, HA.out]; rfl, HK1.out⟩
        case measure => simp [intOf]; omega
    · obtain rfl : j = n := by omega
      have h9 := HA.out
      rw [List.take_of_length_le (by have := HL.out; omega)] at h9
      have H9 := Lib.hid h9
      clear h9
      go_wp2_with fail
      go_ret
      exact ⟨by rw [H9.out]; rfl, HKR.out⟩

theorem maybe6_is (b n : Nat) (l : List Nm) (w : World) (hl : l.length = n) (hn : n ≤ 4611686018427387904) (h : NmsIn w b l) :
    Calls Tryz.prog 215 #[.slice (some ⟨b, 0, none⟩) n n] w fun e w' => e = .returned (.bool (l.all fun m => nameOk m.d)) ∧ Keeps [] w w' := by
  have HE := Lib.hid (eachd_is b n l w hl hn h)
  clear h hl hn
  go_enter Tryz.func215, Tryz.ntmps215
  go_wp2_with fail
  refine HE.out.mono ?_
  rintro e w1 ⟨rfl, hk1⟩
  have HK1 := Lib.hid hk1
  clear hk1
  go_wp2_with fail
  go_ret
  exact ⟨rfl, HK1.out⟩

/-- One name, laid in a row of its own. -/
theorem one_name (w : World) (A : Option Addr) (n c : Nat) (d : List Part6) (t : TypeId) (hn : n ≤ 4611686018427387904) (h : DnIn w A n d) : NmsIn (w.alloc (.cells #[.slice A n c] t)) w.heap.size [⟨A, n, c, d⟩] := fun i m hi => by
  cases i with
  | zero =>
    simp at hi
    subst hi
    refine ⟨?_, hn, h.grow ((Keeps.refl [] w).alloc _)⟩
    rw [cell_of_blk (heap_new8 w _)]
    rfl
  | succ i => simp at hi

theorem check6_is (A : Option Addr) (n c : Nat) (d : List Part6) (w : World) (hn : n ≤ 4611686018427387904) (h : DnIn w A n d) :
    Calls Tryz.prog 149 #[.slice A n c] w fun e w' => e = .returned (.int .i64 (if nameOk d then 0 else 2)) ∧ Keeps [] w w' := by
  have HM := Lib.hid (maybe6_is w.heap.size 1 [⟨A, n, c, d⟩] _ rfl (by decide) (one_name w A n c d 45 hn h))
  simp only [List.all_cons, List.all_nil, Bool.and_true] at HM
  obtain ⟨r, hr⟩ : ∃ r, nameOk d = r := ⟨_, rfl⟩
  rw [hr] at HM ⊢
  clear h hn hr
  have HK0 : Hid (Keeps [] w (w.alloc (.cells #[.slice A n c] 45))) := (Keeps.refl [] w).alloc _
  go_enter Tryz.func149, Tryz.ntmps149
  go_wp2_with fail
  refine HM.out.mono ?_
  rintro e w1 ⟨rfl, hk1⟩
  have HK1 := Lib.hid (HK0.out.trans' hk1)
  clear hk1
  cases r
  · go_wp2_with fail
    go_ret
    exact ⟨rfl, HK1.out⟩
  · go_wp2_with fail
    go_ret
    exact ⟨rfl, HK1.out⟩

end Go.Proofs.YtbfebljahjmjfaaGreatDoor
