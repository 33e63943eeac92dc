/- Texts of one proof, laid together: N44 N46. -/
import Derived.Test.YtmgkejgmkfeccaaDoorM16
import Derived.Test.YtmgkejgmkfeccaaDoorM07
import Derived.Test.YtmgkejgmkfeccaaDoorM10
import Derived.BigQuiet
/- dn: the document's hex, Same; walked. -/
namespace Go.Proofs.YtmgkejgmkfeccaaDoor
open Go.RowKit Go.Shelf
set_option linter.unusedVariables false
set_option linter.unusedSimpArgs false
set_option maxRecDepth 100000

theorem hex_cut (q : Nat) (h : q < 16) (W : World) : (Instr.slice 9 (.string ⟨#[48, 49, 50, 51, 52, 53, 54, 55, 56, 57, 97, 98, 99, 100, 101, 102]⟩) (some (.int .u8 (q : Int))) (some (.int .u8 ((q : Int) + 1))) none).run Tryd.prog W = .ok (.string ⟨#[hexd q]⟩) W := by
  have hc : q = 0 ∨ q = 1 ∨ q = 2 ∨ q = 3 ∨ q = 4 ∨ q = 5 ∨ q = 6 ∨ q = 7 ∨ q = 8 ∨ q = 9 ∨ q = 10 ∨ q = 11 ∨ q = 12 ∨ q = 13 ∨ q = 14 ∨ q = 15 := by omega
  rcases hc with rfl | rfl | rfl | rfl | rfl | rfl | rfl | rfl | rfl | rfl | rfl | rfl | rfl | rfl | rfl | rfl
  all_goals
    rw [run_slice_string W 9 _ .u8 .u8 _ _ Tryd.underlying9 (by decide) (by decide) (by decide)]
    rfl

end Go.Proofs.YtmgkejgmkfeccaaDoor
/- dn: the document's Same; walked. -/
namespace Go.Proofs.YtmgkejgmkfeccaaDoor
open Go.RowKit Go.Shelf
set_option linter.unusedVariables false
set_option linter.unusedSimpArgs false
set_option maxRecDepth 100000

theorem rdn_neq (a b a' b' : List UInt8) (W : World) : (binOp .neq 53 (.agg #[.string ⟨a.toArray⟩, .string ⟨b.toArray⟩]) (.agg #[.string ⟨a'.toArray⟩, .string ⟨b'.toArray⟩])).run Tryd.prog W = .ok (.bool (!((a, b) == (a', b')))) W := by
  have hS : Tryd.prog.underlying 53 = some (.struct (Tryd.prog.fieldsOf 53)) := by kernel_rfl
  have hp : Tryd.prog.stoodInHeld 53 = false := by kernel_rfl
  rw [run_neq_struct, show (10000 : Nat) = 9999 + 1 from rfl, run_equalIn_agg W 9999 53 _ _ hS hp]
  simp only [Program.fieldsOf, Tryd.underlying53]
  go_simp
  have e : ((a, b) == (a', b')) = ((a == a') && (b == b')) := rfl
  rw [e]
  by_cases h1 : a = a' <;> by_cases h2 : b = b' <;> simp [h1, h2, ByteArray.toList_eq]

def sameD (a b : List Part6) : Bool := a == b
theorem same_take {a b : List Part6} {j : Nat} {p q : Part6} (hp : a[j]? = some p) (hq : b[j]? = some q) : ((a.take (j + 1)) == (b.take (j + 1))) = (((a.take j) == (b.take j)) && (p == q)) := by
  rw [List.take_add_one, List.take_add_one, hp, hq, Bool.eq_iff_iff]
  simp only [beq_iff_eq, Bool.and_eq_true, Option.toList_some]
  constructor
  · intro h
    have hl : (a.take j).length = (b.take j).length := by
      have h1 := (List.getElem?_eq_some_iff.1 hp).1
      have h2 := (List.getElem?_eq_some_iff.1 hq).1
      rw [List.length_take, List.length_take]
      omega
    obtain ⟨h1, h2⟩ := List.append_inj h hl
    exact ⟨h1, by simpa using h2⟩
  · rintro ⟨h1, rfl⟩
    rw [h1]
theorem same_cut {a b : List Part6} {j : Nat} {p q : Part6} (hp : a[j]? = some p) (hq : b[j]? = some q) (h : (p == q) = false) : (a == b) = false := by
  rw [beq_eq_false_iff_ne] at h ⊢
  intro e
  subst e
  rw [hp] at hq
  injection hq with hq
  exact h hq

set_option maxHeartbeats 4000000 in
theorem rsame6_is (A B : Option Addr) (n m c c' : Nat) (a b : List Part6) (w : World) (ha : DnIn w A n a) (hb : DnIn w B m b) (hn : n ≤ 4611686018427387904) :
    Calls Tryd.prog 9 #[.slice A n c, .slice B m c'] w fun e w' => e = .returned (.bool (a == b)) ∧ Keeps [] w w' := by
  have HA := Lib.hid ha
  have HB := Lib.hid hb
  by_cases hnm : n = m
  · subst hnm
    clear ha hb
    go_enter Tryd.func9, Tryd.ntmps9
    go_wp2_with fail
    go_loopw [5] (fun i wr => ∃ j : Nat, i = .int .i64 (j : Int) ∧ j ≤ n ∧ Hid (((a.take j) == (b.take j)) = true) ∧ Hid (Keeps [] w wr)) (fun i _ => n - (intOf i).toNat)
    case atStart => exact ⟨0, rfl, Nat.zero_le _, by simp [Hid], Keeps.refl _ _⟩
    case round =>
      obtain ⟨j, rfl, hj, HZ, HKR⟩ := hrel
      by_cases hlt : j < n
      · obtain ⟨hl, hp, hc9⟩ := HA.out.grow HKR.out
        obtain ⟨b1, o1, hA9, hcc⟩ := hc9 (by omega)
        obtain ⟨hl2, hp2, hc8⟩ := HB.out.grow HKR.out
        obtain ⟨b2, o2, hB9, hcd⟩ := hc8 (by omega)
        clear hc9 hc8
        subst hA9 hB9
        obtain ⟨p, hu⟩ : ∃ p, a[j]? = some p := ⟨_, List.getElem?_eq_getElem (by omega)⟩
        obtain ⟨q, hu2⟩ : ∃ q, b[j]? = some q := ⟨_, List.getElem?_eq_getElem (by omega)⟩
        obtain ⟨c0, c1⟩ := hcc j p hu
        obtain ⟨c2, c3⟩ := hcd j q hu2
        have HT := Lib.hid (same_take hu hu2)
        have HC := Lib.hid (fun h => same_cut hu hu2 h)
        obtain ⟨s, v⟩ := p
        obtain ⟨s', v'⟩ := q
        dsimp only at c0 c1 c2 c3
        unfold tv at c0 c1 c2 c3
        have heq := fun W => rdn_neq s v s' v' W
        obtain ⟨r, hr⟩ : ∃ r, ((s, v) == (s', v')) = r := ⟨_, rfl⟩
        rw [hr] at heq HT HC
        clear hcc hcd hu hu2 hr hp hp2 hl hl2
        have hjj : (j : Int) < (n : Int) := by omega
        have hji : 0 ≤ (j : Int) := by omega
        cases r
        · go_wp2_with fail
          go_quiet (fail)
          go_wp2_with fail
          go_ret
          exact ⟨by rw [HC.out (by first | exact trivial | rfl)]; rfl, HKR.out.drewN _⟩
        · go_wp2_with fail
          go_quiet (fail)
          go_wp2_with fail
          go_roundw
          case rel => exact ⟨j + 1, by go_num, by omega, by show _ = _; rw [HT.out, HZ.out]; rfl, HKR.out.drewN _⟩
          case measure => simp [intOf]; omega
      · obtain rfl : j = n := by omega
        have h9 := HZ.out
        rw [List.take_of_length_le (by rw [HA.out.1]; exact Nat.le_refl _), List.take_of_length_le (by rw [HB.out.1]; exact Nat.le_refl _)] at h9
        have H9 := Lib.hid h9
        clear h9
        go_wp2_with fail
        go_ret
        exact ⟨by rw [H9.out]; rfl, HKR.out⟩
  · have hf : (a == b) = false := by
      rw [beq_eq_false_iff_ne]
      intro e
      subst e
      exact hnm (ha.1.symm.trans hb.1)
    rw [hf]
    have hni : ¬ (n : Int) = (m : Int) := by omega
    have hnb : ((n : Int) == (m : Int)) = false := by simpa using hni
    have hnc : ((n : Int) != (m : Int)) = true := by simpa using hni
    clear ha hb
    go_enter Tryd.func9, Tryd.ntmps9
    go_wp2_with fail
    go_ret
    exact ⟨rfl, Keeps.refl _ _⟩

end Go.Proofs.YtmgkejgmkfeccaaDoor
