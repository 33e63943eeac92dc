
/- dn: what may be a name; walked. -/
import Derived.Test.YtbfebljahjmjfaaGreatDoorN5
namespace Go.Proofs.YtbfebljahjmjfaaGreatDoor
open Go.RowKit Go.Shelf
set_option linter.unusedVariables false
set_option linter.unusedSimpArgs false
set_option maxRecDepth 100000

theorem all_take2 {α : Type} {xs : List α} {p : α → Bool} {j : Nat} {u : α} (hu : xs[j]? = some u) : (xs.take (j + 1)).all p = ((xs.take j).all p && p u) := by
  rw [List.take_add_one, hu]
  simp
theorem all_cut2 {α : Type} {xs : List α} {p : α → Bool} {j : Nat} {u : α} (hu : xs[j]? = some u) (h : p u = false) : xs.all p = false := by
  rw [← Bool.not_eq_true, List.all_eq_true]
  intro hx
  have := hx u (List.mem_of_getElem? hu)
  rw [h] at this
  cases this

theorem eachr_is (A : Option Addr) (n c : Nat) (d : List Part6) (w : World) (hn : n ≤ 4611686018427387904) (h : DnIn w A n d) :
    Calls Tryz.prog 270 #[.slice A n c, .func (.func 271) #[] #[]] w fun e w' => e = .returned (.bool (d.all partOk)) ∧ Keeps [] w w' := by
  have HD := Lib.hid h
  clear h
  go_enter Tryz.func270, Tryz.ntmps270
  go_wp2_with fail
  go_loopw [9] (fun i wr => ∃ j : Nat, i = .int .i64 (j : Int) ∧ j ≤ n ∧ Hid ((d.take j).all partOk = true) ∧ Hid (Keeps [] w wr)) (fun i _ => n - (intOf i).toNat)
  case atStart => exact ⟨0, rfl, Nat.zero_le _, rfl, Keeps.refl _ _⟩
  case round =>
    obtain ⟨j, rfl, hj, HA, HKR⟩ := hrel
    by_cases hlt : j < n
    · obtain ⟨hl, hp, hc⟩ := HD.out.grow HKR.out
      obtain ⟨hl, hp, hc9⟩ := HD.out.grow HKR.out
      obtain ⟨b, o, hA9, hcc⟩ := hc9 (by omega)
      clear hc9
      subst hA9
      obtain ⟨p, hu⟩ : ∃ p, d[j]? = some p := ⟨_, List.getElem?_eq_getElem (by omega)⟩
      obtain ⟨c0, c1⟩ := hcc j p hu
      have hpp := hp p (List.mem_of_getElem? hu)
      have HM := Lib.hid (fun X => maypart_is p X hpp.1 hpp.2)
      have HT := Lib.hid (all_take2 (p := partOk) hu)
      have HC := Lib.hid (fun h => all_cut2 (p := partOk) hu h)
      obtain ⟨r, hr⟩ : ∃ r, partOk p = r := ⟨_, rfl⟩
      rw [hr] at HM HT HC
      obtain ⟨s, v⟩ := p
      dsimp only at c0 c1 HM
      unfold tv at c0 c1 HM
      clear hcc hu hr hpp hp hl
      have HK2 : Hid (Keeps [] w (wr.alloc (.cells #[.string ⟨s.toArray⟩, .string ⟨v.toArray⟩] 63))) := HKR.out.alloc _
      go_wp2_with fail
      refine (HM.out _).mono ?_
      rintro e w1 ⟨rfl, hk1⟩
      have HK1 := Lib.hid (HK2.out.trans' hk1)
      clear hk1
      cases r
      · go_wp2_with fail
        go_ret
        exact ⟨by rw [HC.out (by first | exact trivial | rfl)]; rfl, HK1.out⟩
      · go_wp2_with fail
        go_roundw
        case rel => exact ⟨j + 1, by go_num, by omega, by show _ = _; rw [HT.out, HA.out]; rfl, HK1.out⟩
        case measure => simp [intOf]; omega
    · obtain rfl : j = n := by omega
      have h9 := HA.out
      rw [List.take_of_length_le (by have := HD.out.1; omega)] at h9
      have H9 := Lib.hid h9
      clear h9
      go_wp2_with fail
      go_ret
      exact ⟨by rw [H9.out]; rfl, HKR.out⟩

theorem maybeone6_is (A : Option Addr) (n c : Nat) (d : List Part6) (w : World) (hn : n ≤ 4611686018427387904) (h : DnIn w A n d) :
    Calls Tryz.prog 269 #[.slice A n c] w fun e w' => e = .returned (.bool (nameOk d)) ∧ Keeps [] w w' := by
  have HE := Lib.hid (eachr_is A n c d w hn h)
  obtain ⟨r, hr⟩ : ∃ r, nameOk d = r := ⟨_, rfl⟩
  rw [hr]
  unfold nameOk at hr
  rw [h.1] at hr
  obtain ⟨q, hq⟩ : ∃ q, d.all partOk = q := ⟨_, rfl⟩
  rw [hq] at HE hr
  clear h hq
  rcases Nat.lt_or_ge 16 n with h1 | h1
  · obtain rfl : r = false := by rw [← hr, show decide (n ≤ 16) = false by simp; omega]; rfl
    have hg : ¬ (n : Int) ≤ 16 := by omega
    have hgb : decide ((n : Int) ≤ 16) = false := by simp; omega
    clear h1 hr hn HE
    go_enter Tryz.func269, Tryz.ntmps269
    go_wp2_with fail
    go_ret
    exact ⟨rfl, Keeps.refl _ _⟩
  · obtain rfl : r = q := by rw [← hr, show decide (n ≤ 16) = true by simp; omega]; rfl
    have hgb : decide ((n : Int) ≤ 16) = true := by simp; omega
    have hg : (n : Int) ≤ 16 := by omega
    clear h1 hr hn
    go_enter Tryz.func269, Tryz.ntmps269
    go_wp2_with fail
    refine HE.out.mono ?_
    rintro e w1 ⟨rfl, hk1⟩
    have HK1 := Lib.hid hk1
    clear hk1
    go_wp2_with fail
    go_ret
    exact ⟨rfl, HK1.out⟩

end Go.Proofs.YtbfebljahjmjfaaGreatDoor
