/- Texts of one proof, laid together: N52. -/
import Derived.Test.YtjnibkgbcgpigaaDoorM16
import Derived.Test.YtjnibkgbcgpigaaDoorM02
/- dn: slices.Grow of a nil name; walked. -/
namespace Go.Proofs.YtjnibkgbcgpigaaDoor
open Go.RowKit Go.Shelf
set_option linter.unusedVariables false
set_option linter.unusedSimpArgs false
set_option maxRecDepth 100000

theorem append_nil2 {P : Program} {w : World} (t u ty e : TypeId) (q : IntKind) (i : TypeInfo) (z c1 c2 : Value) (ht : P.underlying t = some (.slice e)) (hu : P.underlying u = some (.int q)) (hi : P.info? e = some i) (hz : i.zero = some z)
    (hsize : i.size = 2) (hby : i.bytes = 32) (hzc : z.cells = #[c1, c2]) (m : Nat) (h0 : 0 < m) (hm : m ≤ 1000) :
    ∃ cap cs, (Builtin.append_ #[t, u] ty #[.slice none 0 0, .int .i64 (m : Int)]).run P w = .ok (.slice (some ⟨w.heap.size, 0, none⟩) m cap) (w.drew.alloc (.cells cs e)) ∧ m ≤ cap ∧ cap ≤ maxLen ∧ cs.size = cap * 2 := by
  have hwr : IntKind.i64.wrap (m : Int) = (m : Int) := IntWalk.i64_in _ (by omega)
  have hwr0 : IntKind.i64.wrap 0 = 0 := by decide
  have hm0 : ¬ ((m : Int) < 0) := by omega
  have hm48 : ¬ (281474976710656 < (m : Int) * 32) := by omega
  have hn : m ≠ 0 := by omega
  have h63' : ¬ (9223372036854775807 < (m : Int)) := by omega
  have h48' : ¬ (281474976710656 < Builtin.nextslicecap m 0 * 32) := by rw [nextslicecap_zero (by omega)]; omega
  have hge := grownCap_ge w m 0 e
  have hcm : grownCap w m 0 e ≤ maxLen := grownCap_le_maxLen w m 0 e (by unfold maxLen; omega)
  refine ⟨grownCap w m 0 e, Builtin.zeroCells #[c1, c2] m ++ Builtin.zeroCells #[c1, c2] (grownCap w m 0 e - m), ?_, hge, hcm, ?_⟩
  · simp [Builtin.append_, run_underlying ht, run_underlying hu, sizeOf, typeInfo, zeroValue, hi, hz, asInt, asIntOf, hwr, hwr0, hby, hsize, hm0, hm48, Builtin.lenOf, hn, h63', h48', Question.forced, run_firstCells_none, newRow, grownCap, hzc]
    intro hh
    omega
  · simp only [Array.size_append, size_zeroCells]
    simp
    omega

theorem wpList_append_nil2 {P : Program} {w : World} {ops : Array Oper} {rest : List Oper} {o : Oper} {a : Act} {Q : Exit → Act → World → Prop} (hgd : o.guard = none) (s x : Operand) (t u : TypeId)
    (ho : o.op = .call { callee := .builtin .append, args := #[s, x], argTypes := #[t, u] })
    (e : TypeId) (q : IntKind) (i : TypeInfo) (z c1 c2 : Value) (ht : P.underlying t = some (.slice e)) (hu : P.underlying u = some (.int q)) (hi : P.info? e = some i) (hz : i.zero = some z)
    (hsize : i.size = 2) (hby : i.bytes = 32) (hzc : z.cells = #[c1, c2]) (hs : a.eval s = .slice none 0 0) (m : Nat) (hx : a.eval x = .int .i64 (m : Int)) (h0 : 0 < m) (hm : m ≤ 1000)
    (h : ∀ cap cs, m ≤ cap → cap ≤ maxLen → cs.size = cap * 2 → wpList P ops Q rest (a.put o.dst (.slice (some ⟨w.heap.size, 0, none⟩) m cap)) (w.drew.alloc (.cells cs e))) : wpList P ops Q (o :: rest) a w := by
  refine wpList_plain hgd fun K hK => ?_
  obtain ⟨cap, cs, hr, h2, h3, h4⟩ := append_nil2 (P := P) (w := w) t u o.type e q i z c1 c2 ht hu hi hz hsize hby hzc m h0 hm
  unfold Oper.wp execOp
  simp only [ho, resolve, invoke, builtin, Sem.run_bind, Sem.run_pure, Result.andThen_ok, List.map_toArray, List.map_cons, List.map_nil, hs, hx, hr]
  exact hK _ _ (h cap cs h2 h3 h4)

set_option maxHeartbeats 4000000 in
theorem grow6_is (n : Nat) (w : World) (hn : n ≤ 1000) : Calls Tryd.prog 59 #[.slice none 0 0, .int .i64 (n : Int)] w fun e w' => ∃ A d, e = .returned (.slice A 0 d) ∧ w'.ownsRow w.heap.size 38 2 (.slice A 0 d) 0 [] ∧ Keeps [] w w' := by
  obtain ⟨iu, hiu, hzu0, hzu1, hzu2⟩ := info_parts rdn_info
  have h0 : ¬ (n : Int) < 0 := by omega
  by_cases hz : n = 0
  · subst hz
    go_enter Tryd.func59, Tryd.ntmps59
    go_wp2_with fail
    go_ret
    exact ⟨_, _, rfl, World.ownsRow_nil _ _ _ _, Keeps.refl _ _⟩
  · have h1 : (0 : Int) < (n : Int) := by omega
    go_enter Tryd.func59, Tryd.ntmps59
    go_wp2_with (at_builtin; refine wpList_append_nil2 rfl (.tmp 20) (.tmp 21) 23 3 rfl 38 .i64 iu (.agg #[.string ⟨#[]⟩, .string ⟨#[]⟩]) (.string ⟨#[]⟩) (.string ⟨#[]⟩) Tryd.underlying23 Tryd.underlying3 hiu hzu0 hzu1 hzu2 rfl rfl n rfl (by omega) (by omega) ?_; intro cap cs hc1 hc2 hc3; have HK : Hid (Keeps [] w (w.drew.alloc (.cells cs 38))) := ((Keeps.refl [] w).drew).alloc _; have HO : Hid ((w.drew.alloc (.cells cs 38)).ownsRow w.heap.size 38 2 (.slice (some ⟨w.heap.size, 0, none⟩) 0 cap) 0 []) := ⟨rfl, .inr ⟨w.heap.size, cap, cs, rfl, Nat.le_refl _, heap_alloc_new w.drew _, Nat.zero_le _, hc2, hc3, by simp⟩⟩)
    go_ret
    exact ⟨_, _, rfl, HO.out, HK.out⟩

end Go.Proofs.YtjnibkgbcgpigaaDoor
