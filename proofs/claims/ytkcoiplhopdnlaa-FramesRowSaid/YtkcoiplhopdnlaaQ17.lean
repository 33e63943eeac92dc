/- FramesRow: every input; a Bent among arguments, opened. -/
import Derived.Test.YtkcoiplhopdnlaaQ16
import Derived.Test.YtkcoiplhopdnlaaL8
import Derived.Test.YtkcoiplhopdnlaaO1
import Derived.WalkKit
import Derived.ProofKit
import Derived.OpenShut
import Derived.Below
namespace Go.Proofs.Ytkcoiplhopdnlaa
open Go.ChangeShapes Go.WideShapes Go.ChangeAt Go.RowKit Go.Joins
set_option linter.unusedVariables false

theorem row_row (A : Option Addr) (len c : Nat) (l : List Part) (nn at_ by_ cut : Int) (w : World) (hl : PartsAt w A len l) (h1 : len ≤ c) (h2 : c ≤ 9223372036854775807) (hat : -9223372036854775808 ≤ at_ ∧ at_ ≤ 9223372036854775807) (hby : 0 ≤ by_ ∧ by_ < 256) (hcut : -9223372036854775808 ≤ cut ∧ cut ≤ 9223372036854775807) : Calls Try.prog 3 #[.slice A len c, .int .i64 nn, .agg #[.int .i64 at_, .int .u8 by_, .int .i64 cut]] w fun e w' => e = .returned (.bool true) ∧ Below w.heap.size w w' := by
  have out : (fewR l = false ∨ (fewR l = true ∧ nn < 0) ∨ (fewR l = true ∧ 0 ≤ nn ∧ 100 < nn)) → Calls Try.prog 3 #[.slice A len c, .int .i64 nn, .agg #[.int .i64 at_, .int .u8 by_, .int .i64 cut]] w fun e w' => e = .returned (.bool true) ∧ Below w.heap.size w w' := fun h =>
    (row_out A len c nn at_ by_ cut l w hl (by omega) h).mono fun e w' ⟨h1, h2⟩ => ⟨h1, h2.below (Nat.le_refl _) (by simp)⟩
  cases hf : fewR l
  · exact out (.inl hf)
  · by_cases h5 : nn < 0
    · exact out (.inr (.inl ⟨hf, h5⟩))
    · by_cases h6 : 100 < nn
      · exact out (.inr (.inr ⟨hf, by omega, h6⟩))
      · exact row_in A len c nn at_ by_ cut l w hl (by omega) hf (by omega) (by omega) hat hby hcut

theorem i64_wf_bounds {x : Int} (h : (Lit.int .i64 x).wf = true) : -9223372036854775808 ≤ x ∧ x ≤ 9223372036854775807 := by
  simpa [Lit.wf, IntKind.min, IntKind.max, IntKind.signed, IntKind.bits] using h

theorem cellsBent : Try.prog.cellsOf 24 = 3 := by kernel_rfl
theorem cellsIntB : Try.prog.cellsOf 3 = 1 := by kernel_rfl
theorem cellsU8B : Try.prog.cellsOf 5 = 1 := by kernel_rfl

theorem open_bent {H : Type} {enc : TypeId × Value → H} {W : World} {base b0 : Nat} {sp : Nat → Bool} {hd : Bool} {r : Reach} {v : Value} {d : DataW H} {p : List MemPlace} (hv : Value.okWide Try.prog W r b0 24 v) (h : DataW.Trod enc Try.prog W base sp hd 24 v d p) :
    ∃ a b c : Int, v = .agg #[.int .i64 a, .int .u8 b, .int .i64 c] ∧ (-9223372036854775808 ≤ a ∧ a ≤ 9223372036854775807) ∧ (0 ≤ b ∧ b < 256) ∧ (-9223372036854775808 ≤ c ∧ c ≤ 9223372036854775807) := by
  obtain ⟨cs, rfl, hsz⟩ := okWide_struct Try.underlying24 hv
  rw [cellsBent] at hsz
  obtain ⟨c0, c1, c2, rfl⟩ : ∃ a b c, cs = #[a, b, c] := by
    match cs, hsz with
    | ⟨[a, b, c]⟩, _ => exact ⟨a, b, c, rfl⟩
  obtain ⟨fuel, hf⟩ := h
  obtain ⟨xs, m, _, _, _, hlen, hel⟩ := DataW.trod_struct Try.underlying24 hf
  have hl3 : xs.length = 3 := hlen
  have f0 : DataW.trod enc Try.prog W base sp hd m 3 (([c0, c1, c2].drop 0).take (Try.prog.cellsOf 3)) = xs[0]? := hel 0 _ rfl
  have f1 : DataW.trod enc Try.prog W base sp hd m 5 (([c0, c1, c2].drop 1).take (Try.prog.cellsOf 5)) = xs[1]? := hel 1 _ rfl
  have f2 : DataW.trod enc Try.prog W base sp hd m 3 (([c0, c1, c2].drop 2).take (Try.prog.cellsOf 3)) = xs[2]? := hel 2 _ rfl
  rw [cellsIntB] at f0 f2
  rw [cellsU8B] at f1
  simp only [List.drop_zero, List.drop_succ_cons, List.take_succ_cons, List.take_zero] at f0 f1 f2
  rw [List.getElem?_eq_getElem (show 0 < xs.length by omega)] at f0
  rw [List.getElem?_eq_getElem (show 1 < xs.length by omega)] at f1
  rw [List.getElem?_eq_getElem (show 2 < xs.length by omega)] at f2
  obtain ⟨a, ea, _, wa⟩ := DataW.trod_int Try.underlying3 f0
  obtain ⟨b, eb, _, wb⟩ := DataW.trod_int Try.underlying5 f1
  obtain ⟨c, ec, _, wc⟩ := DataW.trod_int Try.underlying3 f2
  injection ea with ea _
  injection eb with eb _
  injection ec with ec _
  subst ea
  subst eb
  subst ec
  obtain ⟨m, rfl, hm⟩ := u8_wf wb
  exact ⟨a, _, c, rfl, i64_wf_bounds wa, by omega, i64_wf_bounds wc⟩

end Go.Proofs.Ytkcoiplhopdnlaa
