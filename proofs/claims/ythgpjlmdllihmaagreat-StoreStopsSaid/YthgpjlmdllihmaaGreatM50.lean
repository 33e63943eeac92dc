/- Texts of one proof, laid together: U66. -/
import Derived.Test.YthgpjlmdllihmaaGreatM49
import Derived.Test.YthgpjlmdllihmaaGreatM08
import Derived.WalkKit
import Derived.ProofKit
import Derived.OpenShut
import Derived.Below
/- StoreStops, whatever came in; an act among arguments, opened. -/
namespace Go.Proofs.YthgpjlmdllihmaaGreat
open Go.ChangeShapes Go.WideShapes Go.ChangeAt Go.RowKit Go.Joins Go.Deep Go.Shelf Go.Maps
set_option linter.unusedVariables false
set_option maxRecDepth 100000

theorem storestops_any (size : Int) (A : Option Addr) (c : Nat) (l : List Act4) (x : Act4) (w : World) (h1 : I64 size) (hl : Acts4 w A l.length l) (hm : l.length ≤ 9223372036854775807) (hx : Act4In w x) :
    Calls Tryz.prog 3 #[.int .i64 size, .slice A l.length c, .agg #[.int .i64 x.kind, .int .i64 x.n, .slice x.A x.l.length x.c, .int .i64 x.keep, .int .i64 x.torn]] w fun e w' => e = .returned (.bool true) ∧ Below w.heap.size w w' := by
  by_cases hq : size < 256 ∨ 10000 < size ∨ 8 < l.length
  · exact (stops_no size A l.length c x w h1 hm hq).mono fun e w' ⟨he, hk⟩ => ⟨he, hk.below (Nat.le_refl _) (by simp)⟩
  · obtain ⟨z, rfl⟩ := Int.eq_ofNat_of_zero_le (show 0 ≤ size by omega)
    exact (stops_yes z A l.length c l x w (by omega) (by omega) (by omega) hl hx).mono fun e w' ⟨he, hk⟩ => ⟨he, hk.below (Nat.le_refl _) (by simp)⟩

theorem open_act {H : Type} {enc : TypeId × Value → H} {W : World} {base b0 : Nat} {sp : Nat → Bool} {hd : Bool} {r : Reach} {v : Value} {d : DataW H} {p : List MemPlace} (hv : Value.okWide Tryz.prog W r b0 27 v) (h : DataW.Trod enc Tryz.prog W base sp hd 27 v d p) :
    ∃ x : Act4, v = .agg #[.int .i64 x.kind, .int .i64 x.n, .slice x.A x.l.length x.c, .int .i64 x.keep, .int .i64 x.torn] ∧ Act4In W x := by
  obtain ⟨cs, rfl, hsz⟩ := okWide_struct Tryz.underlying27 hv
  rw [cellsAct4] at hsz
  obtain ⟨c0, c1, c2, c3, c4, rfl⟩ : ∃ a b c d e, cs = #[a, b, c, d, e] := by
    match cs, hsz with
    | ⟨[a, b, c, d, e]⟩, _ => exact ⟨a, b, c, d, e, rfl⟩
  obtain ⟨fuel, hf⟩ := h
  obtain ⟨x, hx, hin⟩ := act4_of_trod (cs := [c0, c1, c2, c3, c4]) hf
  simp only [List.cons.injEq, and_true] at hx
  obtain ⟨rfl, rfl, rfl, rfl, rfl⟩ := hx
  exact ⟨x, rfl, hin⟩

end Go.Proofs.YthgpjlmdllihmaaGreat
