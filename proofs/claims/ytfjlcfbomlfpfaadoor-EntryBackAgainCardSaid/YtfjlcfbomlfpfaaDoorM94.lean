/- Texts of one proof, laid together: X15. -/
import Derived.Test.YtfjlcfbomlfpfaaDoorM88
import Derived.Test.YtfjlcfbomlfpfaaDoorM82
/- entry: changes among a law's arguments, opened. -/
namespace Go.Proofs.YtfjlcfbomlfpfaaDoor
open Go.RowKit Go.ChangeShapes Go.WideShapes Go.Deep
set_option linter.unusedVariables false
set_option maxRecDepth 100000

theorem cellsMod7 : Tryd.prog.cellsOf 35 = 4 - 1 := by kernel_rfl
theorem cellsKind7 : Tryd.prog.cellsOf 33 = 1 := by kernel_rfl
instance : Inhabited Mod7 := ⟨⟨0, default⟩⟩

section
variable {H : Type} {enc : TypeId × Value → H} {W : World} {base : Nat} {sp : Nat → Bool} {hd : Bool}

theorem mod_of_trod {fuel : Nat} {cs : List Value} {y : DataW H × List MemPlace} (h : DataW.trod enc Tryd.prog W base sp hd fuel 35 cs = some y) :
    ∃ x : Mod7, cs = [.int .i64 x.k, tv x.a.name, .slice x.a.A x.a.n x.a.c] ∧ x.a.fits W := by
  obtain ⟨xs, m, _, _, hlen, hxl, hf⟩ := DataW.trod_struct Tryd.underlying35 h
  have hxl3 : xs.length = 3 := hxl
  rw [cellsMod7] at hlen
  obtain ⟨v0, v1, v2, rfl⟩ : ∃ a b c, cs = [a, b, c] := by
    match cs, hlen with
    | [a, b, c], _ => exact ⟨a, b, c, rfl⟩
  have hx : ∀ j, j < 3 → ∃ z, xs[j]? = some z := fun j hj => ⟨_, List.getElem?_eq_getElem (by omega)⟩
  have f0 : DataW.trod enc Tryd.prog W base sp hd m 33 (([v0, v1, v2].drop 0).take (Tryd.prog.cellsOf 33)) = xs[0]? := hf 0 _ rfl
  have f1 : DataW.trod enc Tryd.prog W base sp hd m 9 (([v0, v1, v2].drop 1).take (Tryd.prog.cellsOf 9)) = xs[1]? := hf 1 _ rfl
  have f2 : DataW.trod enc Tryd.prog W base sp hd m 24 (([v0, v1, v2].drop 2).take (Tryd.prog.cellsOf 24)) = xs[2]? := hf 2 _ rfl
  rw [cellsKind7] at f0
  rw [cellsStr7] at f1
  rw [cellsStrs7] at f2
  simp only [List.drop_zero, List.drop_succ_cons, List.take_succ_cons, List.take_zero] at f0 f1 f2
  obtain ⟨z0, e0⟩ := hx 0 (by omega)
  obtain ⟨z1, e1⟩ := hx 1 (by omega)
  obtain ⟨z2, e2⟩ := hx 2 (by omega)
  rw [e0] at f0
  rw [e1] at f1
  rw [e2] at f2
  obtain ⟨K, ea, _, wa⟩ := DataW.trod_int Tryd.underlying33 f0
  injection ea with ea _
  subst ea
  obtain ⟨k, rfl, hk⟩ := str7_of_trod f1
  obtain ⟨A, n, c, l, rfl, h1, h2, h3⟩ := strs_of_trod f2
  exact ⟨⟨K, ⟨k, A, n, c, l⟩⟩, rfl, hk, h2, h3, h1⟩
theorem mods_of_trod {t : TypeId} (hT : Tryd.prog.underlying t = some (.slice 35)) {fuel : Nat} {v : Value} {y : DataW H × List MemPlace} (h : DataW.trod enc Tryd.prog W base sp hd fuel t [v] = some y) :
    ∃ (A : Option Addr) (len cap : Nat) (l : List Mod7), v = .slice A len cap ∧ ModIn W A len l ∧ len ≤ cap ∧ cap ≤ 9223372036854775807 := by
  rcases open_slice hT h with ⟨hcs, _⟩ | ⟨a, len, cap, m, n, D, Pl, hcs, _, hl, hm, hmm, _, hx⟩
  · injection hcs with hcs _
    exact ⟨none, 0, 0, [], hcs, ⟨rfl, (fun p hp => by cases hp), fun h => by omega⟩, by simp⟩
  · injection hcs with hcs _
    have hml : len ≤ m := by rw [hmm]; split <;> omega
    have hone0 : ∀ i, i < len → ∃ x : Mod7, (∀ j, j < 3 → W.cell? ((a.add (i * 3)).add j) = [.int .i64 x.k, tv x.a.name, .slice x.a.A x.a.n x.a.c][j]?) ∧ x.a.fits W := by
      intro i hi
      obtain ⟨cs', hc, ht⟩ := hx i (by omega)
      rw [cellsMod7] at hc
      obtain ⟨x, rfl, h1⟩ := mod_of_trod ht
      obtain ⟨_, _, hcell⟩ := World.cells?_some hc
      exact ⟨x, fun j hj => hcell j hj, h1⟩
    have hsp0 : 0 < len → a = ⟨a.block, a.off, none⟩ := by
      intro h0
      obtain ⟨x, hcell, _⟩ := hone0 0 h0
      have h1 := hcell 0 (by omega)
      rw [show (a.add (0 * 3)).add 0 = a from by unfold Addr.add; simp] at h1
      exact addr_of_cell h1
    have hone : ∀ i, i < len → ∃ x : Mod7, W.cell? ⟨a.block, a.off + i * 3, none⟩ = some (.int .i64 x.k) ∧ W.cell? ⟨a.block, a.off + i * 3 + 1, none⟩ = some (tv x.a.name) ∧ W.cell? ⟨a.block, a.off + i * 3 + 2, none⟩ = some (.slice x.a.A x.a.n x.a.c) ∧ x.a.fits W := by
      intro i hi
      obtain ⟨x, hcell, h1⟩ := hone0 i hi
      have hsp := hsp0 (by omega)
      have hadd : ∀ j, (a.add (i * 3)).add j = ⟨a.block, a.off + i * 3 + j, none⟩ := by
        intro j
        rw [hsp, add_at, add_at]
      have hc' : ∀ j, j < 3 → W.cell? ⟨a.block, a.off + i * 3 + j, none⟩ = [.int .i64 x.k, tv x.a.name, .slice x.a.A x.a.n x.a.c][j]? := by
        intro j hj
        rw [← hadd j]
        exact hcell j hj
      exact ⟨x, hc' 0 (by omega), hc' 1 (by omega), hc' 2 (by omega), h1⟩
    obtain ⟨X, hX⟩ := choose_lt (α := Mod7) (p := fun i x => W.cell? ⟨a.block, a.off + i * 3, none⟩ = some (.int .i64 x.k) ∧ W.cell? ⟨a.block, a.off + i * 3 + 1, none⟩ = some (tv x.a.name) ∧ W.cell? ⟨a.block, a.off + i * 3 + 2, none⟩ = some (.slice x.a.A x.a.n x.a.c) ∧ x.a.fits W) hone
    unfold maxLen at hm
    refine ⟨some a, len, cap, (List.range len).map X, hcs, ⟨by simp, fun p hp => ?_, fun h0 => ⟨a.block, a.off, by rw [← hsp0 h0], fun i p hi => ?_⟩⟩, hl, by omega⟩
    · obtain ⟨i, hi, rfl⟩ := List.mem_map.1 hp
      exact (hX i (by simpa using hi)).2.2.2
    · have hil : i < len := by
        have := (List.getElem?_eq_some_iff.1 hi).1
        simpa using this
      rw [List.getElem?_map, List.getElem?_range hil] at hi
      injection hi with hi
      subst hi
      exact ⟨(hX i hil).1, (hX i hil).2.1, (hX i hil).2.2.1⟩
theorem open_mods {t : TypeId} (hT : Tryd.prog.underlying t = some (.slice 35)) {A0 : Option Addr} {n0 c0 : Nat} {d : DataW H} {p : List MemPlace} (h : DataW.Trod enc Tryd.prog W base sp hd t (.slice A0 n0 c0) d p) : ∃ l : List Mod7, ModIn W A0 n0 l ∧ n0 ≤ c0 ∧ c0 ≤ 9223372036854775807 := by
  obtain ⟨fuel, hf⟩ := h
  have hf' : DataW.trod enc Tryd.prog W base sp hd fuel t [.slice A0 n0 c0] = some (d, p) := hf
  obtain ⟨B, lb, cb, l, he, h1, h2, h3⟩ := mods_of_trod hT hf'
  injection he with e1 e2 e3
  subst e1 e2 e3
  exact ⟨l, h1, h2, h3⟩
theorem open_strs {t : TypeId} (hT : t = 24) {A0 : Option Addr} {n0 c0 : Nat} {d : DataW H} {p : List MemPlace} (h : DataW.Trod enc Tryd.prog W base sp hd t (.slice A0 n0 c0) d p) : ∃ l : List Txt, StrsIn W A0 n0 l ∧ n0 ≤ c0 ∧ c0 ≤ 9223372036854775807 := by
  subst hT
  obtain ⟨fuel, hf⟩ := h
  obtain ⟨B, lb, cb, l, he, h1, h2, h3⟩ := strs_of_trod (v := .slice A0 n0 c0) hf
  injection he with e1 e2 e3
  subst e1 e2 e3
  exact ⟨l, h1, h2, h3⟩
theorem open_mod {b0 : Nat} {r : Reach} {v : Value} {d : DataW H} {p : List MemPlace} (hv : Value.okWide Tryd.prog W r b0 35 v) (h : DataW.Trod enc Tryd.prog W base sp hd 35 v d p) :
    ∃ x : Mod7, v = .agg #[.int .i64 x.k, tv x.a.name, .slice x.a.A x.a.n x.a.c] ∧ x.a.fits W := by
  obtain ⟨cs, rfl, hsz⟩ := okWide_struct Tryd.underlying35 hv
  rw [cellsMod7] at hsz
  obtain ⟨c0, c1, c2, rfl⟩ : ∃ a b c, cs = #[a, b, c] := by
    match cs, hsz with
    | ⟨[a, b, c]⟩, _ => exact ⟨a, b, c, rfl⟩
  obtain ⟨fuel, hf⟩ := h
  obtain ⟨x, hx, h1⟩ := mod_of_trod (cs := [c0, c1, c2]) hf
  simp only [List.cons.injEq, and_true] at hx
  obtain ⟨rfl, rfl, rfl⟩ := hx
  exact ⟨x, rfl, h1⟩
end
end Go.Proofs.YtfjlcfbomlfpfaaDoor
