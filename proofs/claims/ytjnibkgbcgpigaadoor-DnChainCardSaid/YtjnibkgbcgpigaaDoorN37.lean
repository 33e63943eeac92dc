
/- dn: what is light enough for the laws; walked. -/
import Derived.Test.YtjnibkgbcgpigaaDoorN6
namespace Go.Proofs.YtjnibkgbcgpigaaDoor
open Go.RowKit Go.Shelf
set_option linter.unusedVariables false
set_option linter.unusedSimpArgs false
set_option maxRecDepth 100000

def lightP (p : Part6) : Bool := decide (p.1.length ≤ 300) && decide (p.2.length ≤ 300)
def lightD (d : List Part6) : Bool := decide (d.length ≤ 20) && d.all lightP

theorem light_is (A : Option Addr) (n c : Nat) (d : List Part6) (w : World) (h : DnIn w A n d) :
    Calls Tryd.prog 10 #[.slice A n c] w fun e w' => e = .returned (.bool (lightD d)) ∧ w = w' := by
  have HD := Lib.hid h
  obtain ⟨r, hr⟩ : ∃ r, lightD d = r := ⟨_, rfl⟩
  rw [hr]
  unfold lightD at hr
  rw [h.1] at hr
  clear h
  rcases Nat.lt_or_ge 20 n with h1 | h1
  · obtain rfl : r = false := by rw [← hr, show decide (n ≤ 20) = false by simp; omega]; rfl
    have hg : (20 : Int) < (n : Int) := by omega
    clear h1 hr
    go_enter Tryd.func10, Tryd.ntmps10
    go_wp2_with fail
    go_ret
    exact ⟨rfl, rfl⟩
  have hg : ¬ (20 : Int) < (n : Int) := by omega
  have HR : Hid (d.all lightP = r) := by show _ = _; rw [← hr, show decide (n ≤ 20) = true by simp; omega]; rfl
  clear hr
  go_enter Tryd.func10, Tryd.ntmps10
  go_wp2_with fail
  obtain ⟨V, rfl⟩ : ∃ V : World, V = w := ⟨_, rfl⟩
  go_loopw [3] (fun i wr => ∃ j : Nat, i = .int .i64 (j : Int) ∧ j ≤ n ∧ Hid ((d.take j).all lightP = true) ∧ wr = V) (fun i _ => n - (intOf i).toNat)
  case atStart => exact ⟨0, rfl, Nat.zero_le _, rfl, rfl⟩
  case round =>
    obtain ⟨j, rfl, hj, HA, rfl⟩ := hrel
    by_cases hlt : j < n
    · obtain ⟨hl, hp, hc9⟩ := HD.out
      obtain ⟨b, o, hA9, hcc⟩ := hc9 (by omega)
      clear hc9
      subst hA9
      obtain ⟨p, hu⟩ : ∃ p, d[j]? = some p := ⟨_, List.getElem?_eq_getElem (by omega)⟩
      obtain ⟨c0, c1⟩ := hcc j p hu
      have HT := Lib.hid (all_take2 (p := lightP) hu)
      have HC := Lib.hid (fun h => all_cut2 (p := lightP) hu h)
      obtain ⟨q, hq⟩ : ∃ q, lightP p = q := ⟨_, rfl⟩
      rw [hq] at HT HC
      obtain ⟨s, v⟩ := p
      unfold lightP at hq
      dsimp only at c0 c1 hq
      unfold tv at c0 c1
      have hji : (j : Int) < (n : Int) := by omega
      clear hcc hu hp hl
      rcases Nat.lt_or_ge 300 s.length with h2 | h2
      · obtain rfl : q = false := by rw [← hq, show decide (s.length ≤ 300) = false by simp; omega]; rfl
        have g1 : (300 : Int) < (s.length : Int) := by omega
        clear hq h2
        go_wp2_with fail
        go_ret
        exact ⟨by rw [← HR.out, HC.out (by first | exact trivial | rfl)]; rfl, rfl⟩
      · have g1 : ¬ (300 : Int) < (s.length : Int) := by omega
        rcases Nat.lt_or_ge 300 v.length with h3 | h3
        · obtain rfl : q = false := by rw [← hq, show decide (v.length ≤ 300) = false by simp; omega]; simp
          have g2 : (300 : Int) < (v.length : Int) := by omega
          have g2b : decide ((300 : Int) < (v.length : Int)) = true := by simp; omega
          clear hq h2 h3
          go_wp2_with fail
          go_ret
          exact ⟨by rw [← HR.out, HC.out (by first | exact trivial | rfl)]; rfl, rfl⟩
        · obtain rfl : q = true := by rw [← hq, show decide (v.length ≤ 300) = true by simp; omega, show decide (s.length ≤ 300) = true by simp; omega]; rfl
          have g2 : ¬ (300 : Int) < (v.length : Int) := by omega
          have g2b : decide ((300 : Int) < (v.length : Int)) = false := by simp; omega
          clear hq h2 h3
          go_wp2_with fail
          go_roundw
          case rel => exact ⟨j + 1, by go_num, by omega, by show _ = _; rw [HT.out, HA.out]; rfl, trivial⟩
          case measure => simp [intOf]; omega
    · obtain rfl : j = n := by omega
      have h9 := HA.out
      rw [List.take_of_length_le (by have := HD.out.1; omega)] at h9
      have H9 : Hid (true = r) := h9.symm.trans HR.out
      clear h9
      go_wp2_with fail
      go_ret
      exact ⟨by rw [← H9.out]; rfl, rfl⟩

end Go.Proofs.YtjnibkgbcgpigaaDoor
