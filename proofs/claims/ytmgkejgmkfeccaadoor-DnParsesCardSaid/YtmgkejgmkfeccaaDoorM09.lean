/- Texts of one proof, laid together: N16 N17. -/
import Derived.Test.YtmgkejgmkfeccaaDoorM07
import Derived.Recover
import Derived.Laws.Pointers
import Derived.Laws.EntriesVeiled
/- dn: what gives up. -/
namespace Go.Proofs.YtmgkejgmkfeccaaDoor
open Go.RowKit Go.Shelf
set_option linter.unusedVariables false
set_option linter.unusedSimpArgs false
set_option maxRecDepth 100000

/-- A panic with an error's number. -/
abbrev gaveUp (n : Int) : Ending := .panicked [{ v := .iface 25 (.int .i64 n), recovered := false }]

theorem must_is (r : Bool) (w : World) : Calls Tryd.prog 39 #[.bool r] w fun e w' => (r = true ∧ e = .returned (.tuple #[]) ∨ r = false ∧ e = gaveUp 160) ∧ w = w' := by
  cases r
  · go_enter Tryd.func39, Tryd.ntmps39
    go_wp2_with fail
    first
      | exact ⟨rfl, .inr ⟨rfl, rfl⟩, rfl⟩
      | exact ⟨rfl, .inr ⟨trivial, rfl⟩, rfl⟩
  · go_enter Tryd.func39, Tryd.ntmps39
    go_wp2_with fail
    go_end0
    first
      | exact ⟨.inl ⟨rfl, rfl⟩, rfl⟩
      | exact ⟨.inl ⟨trivial, rfl⟩, rfl⟩

theorem refusal6_nil (w : World) : Calls Tryd.prog 19 #[.nilIface] w fun e w' => e = .returned (.int .i64 0) ∧ w = w' := by
  go_enter Tryd.func19, Tryd.ntmps19
  go_wp2_with fail
  go_ret
  exact ⟨rfl, rfl⟩
theorem refusal6_no (n : Int) (w : World) : Calls Tryd.prog 19 #[.iface 25 (.int .i64 n)] w fun e w' => e = .returned (.int .i64 n) ∧ w = w' := by
  have hta : ∀ W, (Instr.typeAssert (.iface 25 (.int .i64 n)) 20 25 true).run Tryd.prog W = .ok (.tuple #[.int .i64 n, .bool true]) W := fun W => by kernel_rfl
  go_enter Tryd.func19, Tryd.ntmps19
  go_wp2_with fail
  go_ret
  exact ⟨rfl, rfl⟩

end Go.Proofs.YtmgkejgmkfeccaaDoor
/- dn: what Parse's deferred closure makes of what gave up. -/
namespace Go.Proofs.YtmgkejgmkfeccaaDoor
open Go.RowKit Go.Shelf
set_option linter.unusedVariables false
set_option linter.unusedSimpArgs false
set_option maxRecDepth 100000

theorem parse_panicking (p : Nat) (x n : Int) (older : List PanicEntry) (w : World) (hc : w.cell? ⟨p, 0, none⟩ = some (.int .i64 x)) (hz : w.frozen? ⟨p, 0, none⟩ = false) :
    CallsD Tryd.prog 18 #[.pointer (some ⟨p, 0, none⟩)] (.panicking ({ v := .iface 25 (.int .i64 n), recovered := false } :: older)) w fun e u' w' =>
      e = .returned (.tuple #[]) ∧ u' = .panicking ({ v := .iface 25 (.int .i64 n), recovered := true } :: older) ∧ w' = w.setCell ⟨p, 0, none⟩ (.int .i64 n) := by
  refine callsD_of_wpS Tryd.func18 rfl fun c₀ cs hu => ?_
  apply wpS_region
  simp [wpOpsS, go_sem, recoverD, hu, Tryd.ntmps18, Exit.thenS]
  refine (refusal6_no n w).mono ?_
  rintro e w1 ⟨rfl, rfl⟩
  simp [go_sem, hc, hz]
  simp [bodyPostS, results, Tryd.results18]
theorem parse_idle (p : Nat) (x : Int) (w : World) (hc : w.cell? ⟨p, 0, none⟩ = some (.int .i64 x)) (hz : w.frozen? ⟨p, 0, none⟩ = false) :
    CallsD Tryd.prog 18 #[.pointer (some ⟨p, 0, none⟩)] .returning w fun e u' w' =>
      e = .returned (.tuple #[]) ∧ u' = .returning ∧ w' = w.setCell ⟨p, 0, none⟩ (.int .i64 0) := by
  refine callsD_of_wpS Tryd.func18 rfl fun c₀ cs hu => ?_
  apply wpS_region
  simp [wpOpsS, go_sem, recoverD, hu, Tryd.ntmps18, Exit.thenS]
  refine (refusal6_nil w).mono ?_
  rintro e w1 ⟨rfl, rfl⟩
  simp [go_sem, hc, hz]
  cases c₀
  simp_all [bodyPostS, results, Tryd.results18]

end Go.Proofs.YtmgkejgmkfeccaaDoor
