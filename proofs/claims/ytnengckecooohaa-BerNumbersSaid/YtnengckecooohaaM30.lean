/- Texts of one proof, laid together: T24. -/
import Derived.Test.YtnengckecooohaaM28
import Derived.Test.YtnengckecooohaaM29
import Derived.Test.YtnengckecooohaaM01
import Derived.Test.YtnengckecooohaaM20
import Derived.WalkKit
import Derived.ProofKit
import Derived.OpenShut
import Derived.Below
/- ber: BerNumbers at every input; a Tag among arguments, opened. -/
namespace Go.Proofs.Ytnengckecooohaa
open Go.ChangeShapes Go.WideShapes Go.ChangeAt Go.RowKit Go.Joins
set_option linter.unusedVariables false
set_option maxRecDepth 100000

theorem bernumbers_any (n : Int) (hn : -9223372036854775808 ≤ n ∧ n ≤ 9223372036854775807) (A : Option Addr) (m c : Nat) (xs : List UInt8) (hm : xs.length = m) (cl nu : Nat) (hcl : cl < 256) (hnu : nu < 256) (k : Bool) (w : World) (hb : BytesAt w (.slice A m c) xs) (h63 : m ≤ 9223372036854775807) :
    Calls Try.prog 4 #[.int .i64 n, .slice A m c, .agg #[.int .u8 (cl : Int), .int .u8 (nu : Int), .bool k]] w fun e w' => e = .returned (.bool true) ∧ Below w.heap.size w w' := by
  cases k
  · exact bernumbers_f n hn A m c xs hm cl nu hcl hnu w hb h63
  · exact bernumbers_t n hn A m c xs hm cl nu hcl hnu w hb h63

theorem i64_bounds5 {x : Int} (h : (Lit.int .i64 x).wf = true) : -9223372036854775808 ≤ x ∧ x ≤ 9223372036854775807 := by
  simpa [Lit.wf, IntKind.min, IntKind.max, IntKind.signed, IntKind.bits] using h

theorem cellsTag5 : Try.prog.cellsOf 38 = 3 := by kernel_rfl
theorem cellsBool5 : Try.prog.cellsOf 4 = 1 := by kernel_rfl
theorem cellsU85 : Try.prog.cellsOf 5 = 1 := by kernel_rfl

theorem open_tag5 {H : Type} {enc : TypeId × Value → H} {W : World} {base b0 : Nat} {sp : Nat → Bool} {hd : Bool} {r : Reach} {v : Value} {d : DataW H} {p : List MemPlace} (hv : Value.okWide Try.prog W r b0 38 v) (h : DataW.Trod enc Try.prog W base sp hd 38 v d p) :
    ∃ (a b : Nat) (c : Bool), v = .agg #[.int .u8 (a : Int), .int .u8 (b : Int), .bool c] ∧ a < 256 ∧ b < 256 := by
  obtain ⟨cs, rfl, hsz⟩ := okWide_struct Try.underlying38 hv
  rw [cellsTag5] at hsz
  obtain ⟨c0, c1, c2, rfl⟩ : ∃ a b c, cs = #[a, b, c] := by
    match cs, hsz with
    | ⟨[a, b, c]⟩, _ => exact ⟨a, b, c, rfl⟩
  obtain ⟨fuel, hf⟩ := h
  obtain ⟨xs, m, _, _, _, hlen, hel⟩ := DataW.trod_struct Try.underlying38 hf
  have hl3 : xs.length = 3 := hlen
  have f0 : DataW.trod enc Try.prog W base sp hd m 5 (([c0, c1, c2].drop 0).take (Try.prog.cellsOf 5)) = xs[0]? := hel 0 _ rfl
  have f1 : DataW.trod enc Try.prog W base sp hd m 5 (([c0, c1, c2].drop 1).take (Try.prog.cellsOf 5)) = xs[1]? := hel 1 _ rfl
  have f2 : DataW.trod enc Try.prog W base sp hd m 4 (([c0, c1, c2].drop 2).take (Try.prog.cellsOf 4)) = xs[2]? := hel 2 _ rfl
  rw [cellsU85] at f0 f1
  rw [cellsBool5] at f2
  simp only [List.drop_zero, List.drop_succ_cons, List.take_succ_cons, List.take_zero] at f0 f1 f2
  rw [List.getElem?_eq_getElem (show 0 < xs.length by omega)] at f0
  rw [List.getElem?_eq_getElem (show 1 < xs.length by omega)] at f1
  rw [List.getElem?_eq_getElem (show 2 < xs.length by omega)] at f2
  obtain ⟨a, ea, _, wa⟩ := DataW.trod_int Try.underlying5 f0
  obtain ⟨b, eb, _, wb⟩ := DataW.trod_int Try.underlying5 f1
  obtain ⟨c, ec, _⟩ := DataW.trod_bool Try.underlying4 f2
  injection ea with ea _
  injection eb with eb _
  injection ec with ec _
  subst ea
  subst eb
  subst ec
  obtain ⟨k, rfl, hk⟩ := u8_wf wa
  obtain ⟨m, rfl, hm⟩ := u8_wf wb
  exact ⟨k, m, c, rfl, hk, hm⟩

end Go.Proofs.Ytnengckecooohaa
