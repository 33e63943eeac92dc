/- Texts of one proof, laid together: N37 N42. -/
import Derived.Test.YtjnibkgbcgpigaaDoorM05
import Derived.Test.YtjnibkgbcgpigaaDoorM01
import Derived.ProofKit
import Derived.Deep.Grids
import Derived.Deep.Slices
import Derived.Lib.SmallJoins
import Derived.OpenShut
/- dn: what is light enough for the laws; walked. -/
namespace Go.Proofs.YtjnibkgbcgpigaaDoor
open Go.RowKit Go.Shelf
set_option linter.unusedVariables false
set_option linter.unusedSimpArgs false
set_option maxRecDepth 100000

def lightP (p : Part6) : Bool := decide (p.1.length ≤ 300) && decide (p.2.length ≤ 300)
def lightD (d : List Part6) : Bool := decide (d.length ≤ 20) && d.all lightP

theorem light_is (A : Option Addr) (n c : Nat) (d : List Part6) (w : World) (h : DnIn w A n d) :
    Calls Tryd.prog 10 #[.slice A n c] w fun e w' => e = .returned (.bool (lightD d)) ∧ w = w' := by
  have HD := Lib.hid h
  obtain ⟨r, hr⟩ : ∃ r, lightD d = r := ⟨_, rfl⟩
  rw [hr]
  unfold lightD at hr
  rw [h.1] at hr
  clear h
  rcases Nat.lt_or_ge 20 n with h1 | h1
  · obtain rfl : r = false := by rw [← hr, show decide (n ≤ 20) = false by simp; omega]; rfl
    have hg : (20 : Int) < (n : Int) := by omega
    clear h1 hr
    go_enter Tryd.func10, Tryd.ntmps10
    go_wp2_with fail
    go_ret
    exact ⟨rfl, rfl⟩
  have hg : ¬ (20 : Int) < (n : Int) := by omega
  have HR : Hid (d.all lightP = r) := by show _ = _; rw [← hr, show decide (n ≤ 20) = true by simp; omega]; rfl
  clear hr
  go_enter Tryd.func10, Tryd.ntmps10
  go_wp2_with fail
  obtain ⟨V, rfl⟩ : ∃ V : World, V = w := ⟨_, rfl⟩
  go_loopw [3] (fun i wr => ∃ j : Nat, i = .int .i64 (j : Int) ∧ j ≤ n ∧ Hid ((d.take j).all lightP = true) ∧ wr = V) (fun i _ => n - (intOf i).toNat)
  case atStart => exact ⟨0, rfl, Nat.zero_le _, rfl, rfl⟩
  case round =>
    obtain ⟨j, rfl, hj, HA, rfl⟩ := hrel
    by_cases hlt : j < n
    · obtain ⟨hl, hp, hc9⟩ := HD.out
      obtain ⟨b, o, hA9, hcc⟩ := hc9 (by omega)
      clear hc9
      subst hA9
      obtain ⟨p, hu⟩ : ∃ p, d[j]? = some p := ⟨_, List.getElem?_eq_getElem (by omega)⟩
      obtain ⟨c0, c1⟩ := hcc j p hu
      have HT := Lib.hid (all_take2 (p := lightP) hu)
      have HC := Lib.hid (fun h => all_cut2 (p := lightP) hu h)
      obtain ⟨q, hq⟩ : ∃ q, lightP p = q := ⟨_, rfl⟩
      rw [hq] at HT HC
      obtain ⟨s, v⟩ := p
      unfold lightP at hq
      dsimp only at c0 c1 hq
      unfold tv at c0 c1
      have hji : (j : Int) < (n : Int) := by omega
      clear hcc hu hp hl
      rcases Nat.lt_or_ge 300 s.length with h2 | h2
      · obtain rfl : q = false := by rw [← hq, show decide (s.length ≤ 300) = false by simp; omega]; rfl
        have g1 : (300 : Int) < (s.length : Int) := by omega
        clear hq h2
        go_wp2_with fail
        go_ret
        exact ⟨by rw [← HR.out, HC.out (by first | exact trivial | rfl)]; rfl, rfl⟩
      · have g1 : ¬ (300 : Int) < (s.length : Int) := by omega
        rcases Nat.lt_or_ge 300 v.length with h3 | h3
        · obtain rfl : q = false := by rw [← hq, show decide (v.length ≤ 300) = false by simp; omega]; simp
          have g2 : (300 : Int) < (v.length : Int) := by omega
          have g2b : decide ((300 : Int) < (v.length : Int)) = true := by simp; omega
          clear hq h2 h3
          go_wp2_with fail
          go_ret
          exact ⟨by rw [← HR.out, HC.out (by first | exact trivial | rfl)]; rfl, rfl⟩
        · obtain rfl : q = true := by rw [← hq, show decide (v.length ≤ 300) = true by simp; omega, show decide (s.length ≤ 300) = true by simp; omega]; rfl
          have g2 : ¬ (300 : Int) < (v.length : Int) := by omega
          have g2b : decide ((300 : Int) < (v.length : Int)) = false := by simp; omega
          clear hq h2 h3
          go_wp2_with fail
          go_roundw
          case rel => exact ⟨j + 1, by go_num, by omega, by show _ = _; rw [HT.out, HA.out]; rfl, trivial⟩
          case measure => simp [intOf]; omega
    · obtain rfl : j = n := by omega
      have h9 := HA.out
      rw [List.take_of_length_le (by have := HD.out.1; omega)] at h9
      have H9 : Hid (true = r) := h9.symm.trans HR.out
      clear h9
      go_wp2_with fail
      go_ret
      exact ⟨by rw [← H9.out]; rfl, rfl⟩

end Go.Proofs.YtjnibkgbcgpigaaDoor
/- dn: names and parts among a law's arguments, opened. -/
namespace Go.Proofs.YtjnibkgbcgpigaaDoor
open Go.RowKit Go.ChangeShapes Go.WideShapes Go.Deep
set_option linter.unusedVariables false
set_option maxRecDepth 100000

theorem cellsRdn6 : Tryd.prog.cellsOf 38 = 2 := by kernel_rfl
theorem cellsStr6 : Tryd.prog.cellsOf 9 = 1 := by kernel_rfl
instance : Inhabited Part6 := ⟨([], [])⟩

section
variable {H : Type} {enc : TypeId × Value → H} {W : World} {base : Nat} {sp : Nat → Bool} {hd : Bool}

theorem str6_of_trod {m : Nat} {v : Value} {z : DataW H × List MemPlace} (h : DataW.trod enc Tryd.prog W base sp hd m 9 [v] = some z) : ∃ k : List UInt8, v = tv k ∧ k.length ≤ 9223372036854775807 := by
  obtain ⟨s, h1, _, h2⟩ := DataW.trod_string Tryd.underlying9 h
  injection h1 with h1 _
  subst h1
  refine ⟨s.data.toList, ?_, ?_⟩
  · obtain ⟨⟨_⟩⟩ := s
    rfl
  · rw [Array.length_toList]
    exact h2
theorem rdn_of_trod {fuel : Nat} {cs : List Value} {y : DataW H × List MemPlace} (h : DataW.trod enc Tryd.prog W base sp hd fuel 38 cs = some y) :
    ∃ x : Part6, cs = [tv x.1, tv x.2] ∧ x.1.length ≤ 9223372036854775807 ∧ x.2.length ≤ 9223372036854775807 := by
  obtain ⟨xs, m, _, _, hlen, hxl, hf⟩ := DataW.trod_struct Tryd.underlying38 h
  have hxl3 : xs.length = 2 := hxl
  rw [cellsRdn6] at hlen
  obtain ⟨v0, v1, rfl⟩ : ∃ a b, cs = [a, b] := by
    match cs, hlen with
    | [a, b], _ => exact ⟨a, b, rfl⟩
  have hx : ∀ j, j < 2 → ∃ z, xs[j]? = some z := fun j hj => ⟨_, List.getElem?_eq_getElem (by omega)⟩
  have f0 : DataW.trod enc Tryd.prog W base sp hd m 9 (([v0, v1].drop 0).take (Tryd.prog.cellsOf 9)) = xs[0]? := hf 0 _ rfl
  have f1 : DataW.trod enc Tryd.prog W base sp hd m 9 (([v0, v1].drop 1).take (Tryd.prog.cellsOf 9)) = xs[1]? := hf 1 _ rfl
  rw [cellsStr6] at f0 f1
  simp only [List.drop_zero, List.drop_succ_cons, List.take_succ_cons, List.take_zero] at f0 f1
  obtain ⟨z0, e0⟩ := hx 0 (by omega)
  obtain ⟨z1, e1⟩ := hx 1 (by omega)
  rw [e0] at f0
  rw [e1] at f1
  obtain ⟨k, rfl, hk⟩ := str6_of_trod f0
  obtain ⟨v, rfl, hv⟩ := str6_of_trod f1
  exact ⟨(k, v), rfl, hk, hv⟩
theorem dn_of_trod {fuel : Nat} {v : Value} {y : DataW H × List MemPlace} (h : DataW.trod enc Tryd.prog W base sp hd fuel 23 [v] = some y) :
    ∃ (A : Option Addr) (len cap : Nat) (l : List Part6), v = .slice A len cap ∧ DnIn W A len l ∧ len ≤ cap ∧ cap ≤ 9223372036854775807 := by
  rcases open_slice Tryd.underlying23 h with ⟨hcs, _⟩ | ⟨a, len, cap, m, n, D, Pl, hcs, _, hl, hm, hmm, _, hx⟩
  · injection hcs with hcs _
    exact ⟨none, 0, 0, [], hcs, ⟨rfl, (fun p hp => by cases hp), fun h => by omega⟩, by simp⟩
  · injection hcs with hcs _
    have hml : len ≤ m := by rw [hmm]; split <;> omega
    have hone0 : ∀ i, i < len → ∃ x : Part6, (∀ j, j < 2 → W.cell? ((a.add (i * 2)).add j) = [tv x.1, tv x.2][j]?) ∧ x.1.length ≤ 9223372036854775807 ∧ x.2.length ≤ 9223372036854775807 := by
      intro i hi
      obtain ⟨cs', hc, ht⟩ := hx i (by omega)
      rw [cellsRdn6] at hc
      obtain ⟨x, rfl, h1, h2⟩ := rdn_of_trod ht
      obtain ⟨_, _, hcell⟩ := World.cells?_some hc
      exact ⟨x, fun j hj => hcell j hj, h1, h2⟩
    have hsp0 : 0 < len → a = ⟨a.block, a.off, none⟩ := by
      intro h0
      obtain ⟨x, hcell, _⟩ := hone0 0 h0
      have h1 := hcell 0 (by omega)
      rw [show (a.add (0 * 2)).add 0 = a from by unfold Addr.add; simp] at h1
      exact addr_of_cell h1
    have hone : ∀ i, i < len → ∃ x : Part6, W.cell? ⟨a.block, a.off + i * 2, none⟩ = some (tv x.1) ∧ W.cell? ⟨a.block, a.off + i * 2 + 1, none⟩ = some (tv x.2) ∧ x.1.length ≤ 9223372036854775807 ∧ x.2.length ≤ 9223372036854775807 := by
      intro i hi
      obtain ⟨x, hcell, h1, h2⟩ := hone0 i hi
      have hsp := hsp0 (by omega)
      have hadd : ∀ j, (a.add (i * 2)).add j = ⟨a.block, a.off + i * 2 + j, none⟩ := by
        intro j
        rw [hsp, add_at, add_at]
      have hc' : ∀ j, j < 2 → W.cell? ⟨a.block, a.off + i * 2 + j, none⟩ = [tv x.1, tv x.2][j]? := by
        intro j hj
        rw [← hadd j]
        exact hcell j hj
      exact ⟨x, hc' 0 (by omega), hc' 1 (by omega), h1, h2⟩
    obtain ⟨X, hX⟩ := choose_lt (α := Part6) (p := fun i x => W.cell? ⟨a.block, a.off + i * 2, none⟩ = some (tv x.1) ∧ W.cell? ⟨a.block, a.off + i * 2 + 1, none⟩ = some (tv x.2) ∧ x.1.length ≤ 9223372036854775807 ∧ x.2.length ≤ 9223372036854775807) hone
    have hll : ((List.range len).map X).length = len := by simp
    unfold maxLen at hm
    refine ⟨some a, len, cap, (List.range len).map X, hcs, ⟨hll, fun p hp => ?_, fun h0 => ⟨a.block, a.off, by rw [← hsp0 h0], fun i p hi => ?_⟩⟩, hl, by omega⟩
    · obtain ⟨i, hi, rfl⟩ := List.mem_map.1 hp
      have := hX i (by simpa using hi)
      exact this.2.2
    · have hil : i < len := by
        have := (List.getElem?_eq_some_iff.1 hi).1
        simpa using this
      rw [List.getElem?_map, List.getElem?_range hil] at hi
      injection hi with hi
      subst hi
      exact ⟨(hX i hil).1, (hX i hil).2.1⟩
theorem open_dn {A0 : Option Addr} {n0 c0 : Nat} {d : DataW H} {p : List MemPlace} (h : DataW.Trod enc Tryd.prog W base sp hd 23 (.slice A0 n0 c0) d p) : ∃ l : List Part6, DnIn W A0 n0 l ∧ n0 ≤ c0 ∧ c0 ≤ 9223372036854775807 := by
  obtain ⟨fuel, hf⟩ := h
  have hf' : DataW.trod enc Tryd.prog W base sp hd fuel 23 [.slice A0 n0 c0] = some (d, p) := hf
  obtain ⟨B, lb, cb, l, he, h1, h2, h3⟩ := dn_of_trod hf'
  injection he with e1 e2 e3
  subst e1 e2 e3
  exact ⟨l, h1, h2, h3⟩
end
theorem open_rdn {H : Type} {enc : TypeId × Value → H} {W : World} {base b0 : Nat} {sp : Nat → Bool} {hd : Bool} {r : Reach} {v : Value} {d : DataW H} {p : List MemPlace} (hv : Value.okWide Tryd.prog W r b0 38 v) (h : DataW.Trod enc Tryd.prog W base sp hd 38 v d p) :
    ∃ x : Part6, v = .agg #[tv x.1, tv x.2] ∧ x.1.length ≤ 9223372036854775807 ∧ x.2.length ≤ 9223372036854775807 := by
  obtain ⟨cs, rfl, hsz⟩ := okWide_struct Tryd.underlying38 hv
  rw [cellsRdn6] at hsz
  obtain ⟨c0, c1, rfl⟩ : ∃ a b, cs = #[a, b] := by
    match cs, hsz with
    | ⟨[a, b]⟩, _ => exact ⟨a, b, rfl⟩
  obtain ⟨fuel, hf⟩ := h
  obtain ⟨x, hx, h1, h2⟩ := rdn_of_trod (cs := [c0, c1]) hf
  simp only [List.cons.injEq, and_true] at hx
  obtain ⟨rfl, rfl⟩ := hx
  exact ⟨x, rfl, h1, h2⟩

end Go.Proofs.YtjnibkgbcgpigaaDoor
