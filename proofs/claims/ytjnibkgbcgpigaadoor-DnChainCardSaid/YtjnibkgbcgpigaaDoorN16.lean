
/- dn: what gives up. -/
import Derived.Test.YtjnibkgbcgpigaaDoorN11
namespace Go.Proofs.YtjnibkgbcgpigaaDoor
open Go.RowKit Go.Shelf
set_option linter.unusedVariables false
set_option linter.unusedSimpArgs false
set_option maxRecDepth 100000

/-- A panic with an error's number. -/
abbrev gaveUp (n : Int) : Ending := .panicked [{ v := .iface 26 (.int .i64 n), recovered := false }]

theorem must_is (r : Bool) (w : World) : Calls Tryd.prog 56 #[.bool r] w fun e w' => (r = true ∧ e = .returned (.tuple #[]) ∨ r = false ∧ e = gaveUp 160) ∧ w = w' := by
  cases r
  · go_enter Tryd.func56, Tryd.ntmps56
    go_wp2_with fail
    first
      | exact ⟨rfl, .inr ⟨rfl, rfl⟩, rfl⟩
      | exact ⟨rfl, .inr ⟨trivial, rfl⟩, rfl⟩
  · go_enter Tryd.func56, Tryd.ntmps56
    go_wp2_with fail
    go_end0
    first
      | exact ⟨.inl ⟨rfl, rfl⟩, rfl⟩
      | exact ⟨.inl ⟨trivial, rfl⟩, rfl⟩

theorem refusal6_nil (w : World) : Calls Tryd.prog 34 #[.nilIface] w fun e w' => e = .returned (.int .i64 0) ∧ w = w' := by
  go_enter Tryd.func34, Tryd.ntmps34
  go_wp2_with fail
  go_ret
  exact ⟨rfl, rfl⟩
theorem refusal6_no (n : Int) (w : World) : Calls Tryd.prog 34 #[.iface 26 (.int .i64 n)] w fun e w' => e = .returned (.int .i64 n) ∧ w = w' := by
  have hta : ∀ W, (Instr.typeAssert (.iface 26 (.int .i64 n)) 20 26 true).run Tryd.prog W = .ok (.tuple #[.int .i64 n, .bool true]) W := fun W => by kernel_rfl
  go_enter Tryd.func34, Tryd.ntmps34
  go_wp2_with fail
  go_ret
  exact ⟨rfl, rfl⟩

end Go.Proofs.YtjnibkgbcgpigaaDoor
