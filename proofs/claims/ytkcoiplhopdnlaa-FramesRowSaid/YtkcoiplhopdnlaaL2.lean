/- The words behind bytes that a closure remembers. -/
import Derived.Test.YtkcoiplhopdnlaaL1
namespace Go.Proofs.Ytkcoiplhopdnlaa
open Go.RowKit
set_option linter.unusedVariables false

/-- A table of 256 words, each one a nought or the word behind its byte. -/
def TabAt (w : World) (T : Nat) : Prop := ∃ (cs : Array Value) (t : TypeId), w.heap[T]? = some (.cells cs t (0, 0)) ∧ cs.size = 256 ∧ ∀ i, i < 256 → ∃ x : Nat, cs[i]? = some (.int .u32 (x : Int)) ∧ (x = 0 ∨ x = crcZs 8 i)

theorem TabAt.lt {w : World} {T : Nat} (h : TabAt w T) : T < w.heap.size := by
  obtain ⟨cs, t, h1, _⟩ := h
  exact lt_of_heap h1
theorem TabAt.keep {w w' : World} {T : Nat} {bs : List Nat} (h : TabAt w T) (hk : Keeps bs w w') (hT : T ∉ bs) : TabAt w' T := by
  obtain ⟨cs, t, h1, h2⟩ := h
  exact ⟨cs, t, blk_keep h1 hk hT, h2⟩
theorem TabAt.cell {w : World} {T : Nat} (h : TabAt w T) {i : Nat} (hi : i < 256) : ∃ x : Nat, w.cell? ⟨T, i, none⟩ = some (.int .u32 (x : Int)) ∧ (x = 0 ∨ x = crcZs 8 i) := by
  obtain ⟨cs, t, h1, h2, h3⟩ := h
  obtain ⟨x, hx, ho⟩ := h3 i hi
  exact ⟨x, (cell_of_blk h1 i).trans hx, ho⟩
theorem TabAt.free {w : World} {T : Nat} (h : TabAt w T) (i : Nat) : w.frozen? ⟨T, i, none⟩ = false := by
  obtain ⟨cs, t, h1, h2, h3⟩ := h
  exact free_of_blk h1 i
theorem TabAt.set {w : World} {T : Nat} (h : TabAt w T) {i : Nat} (hi : i < 256) : TabAt (w.setCell ⟨T, i, none⟩ (.int .u32 (crcZs 8 i : Nat))) T := by
  obtain ⟨cs, t, h1, h2, h3⟩ := h
  refine ⟨cs.setIfInBounds i (.int .u32 (crcZs 8 i : Nat)), t, ?_, by simpa using h2, fun j hj => ?_⟩
  · have hlt := lt_of_heap h1
    have h1' : w.heap[T] = .cells cs t (0, 0) := by
      rw [Array.getElem?_eq_getElem hlt] at h1
      exact Option.some.inj h1
    simp [World.setCell, Array.getElem?_modify, h1]
  · by_cases hij : i = j
    · subst hij
      exact ⟨crcZs 8 i, by rw [Array.getElem?_setIfInBounds_self_of_lt (by omega)], .inr rfl⟩
    · obtain ⟨x, hx, ho⟩ := h3 j hj
      exact ⟨x, by rw [Array.getElem?_setIfInBounds_ne hij]; exact hx, ho⟩

theorem crem (a b T : Nat) (w : World) (ha : a < 4294967296) (hb : b < 256) (hT : TabAt w T) : Calls Try.prog 50 #[.int .u32 (a : Int), .int .u8 (b : Int), .pointer (some ⟨T, 0, none⟩)] w fun e w' => e = .returned (.int .u32 (crcStep a b : Nat)) ∧ TabAt w' T ∧ Keeps [T] w w' := by
  have hl : (a % 256) ^^^ b < 256 := Nat.xor_lt_two_pow (n := 8) (by omega) hb
  have e1 : bits .xor .u8 ((a : Int) % 256) (b : Int) = ((a % 256 ^^^ b : Nat) : Int) := by
    have := u8_xor_nat (a % 256) b (by omega) hb
    rw [← this]
    congr 1
  have e3 : crcStep a b = crcZs 8 (a % 256 ^^^ b) ^^^ a / 256 := by
    rw [crcStep_table hb, Nat.xor_comm]
    congr 2
    have := Nat.xor_mod_two_pow (a := a) (b := b) (n := 8)
    rw [show (2 : Nat) ^ 8 = 256 from rfl, Nat.mod_eq_of_lt hb] at this
    exact this
  have hz : crcZs 8 (a % 256 ^^^ b) < 4294967296 := crcZs_lt (by omega)
  have hst : crcStep 0 (a % 256 ^^^ b) = crcZs 8 (a % 256 ^^^ b) := by simp [crcStep]
  have e4 : bits .xor .u32 ((crcZs 8 (a % 256 ^^^ b) : Nat) : Int) ((a : Int) / 256) = ((crcZs 8 (a % 256 ^^^ b) ^^^ a / 256 : Nat) : Int) := by
    have := u32_xor_nat (crcZs 8 (a % 256 ^^^ b)) (a / 256) hz (by omega)
    rw [← this]
    congr 1
  rw [e3]
  generalize a % 256 ^^^ b = low at *
  have HT := Lib.hid hT
  obtain ⟨x, hx, ho⟩ := hT.cell hl
  have hf := hT.free low
  by_cases h0 : x = 0
  · subst h0
    have c2 : Hid (TabAt (w.setCell ⟨T, low, none⟩ (.int .u32 (crcZs 8 low : Nat))) T) := hT.set hl
    have KP : Hid (Keeps [T] w (w.setCell ⟨T, low, none⟩ (.int .u32 (crcZs 8 low : Nat)))) := (Keeps.refl [T] w).setCell (.inl (by simp)) _
    generalize crcZs 8 low = z at *
    clear ho hT e3 HT
    go_enter Try.func50, Try.ntmps50
    go_wp2_with fail
    refine (cstep2 0 low w (by decide) hl).mono ?_
    rintro e w' ⟨rfl, rfl⟩
    rw [hst]
    go_wp2_with fail
    go_ret
    exact ⟨rfl, c2.out, KP.out⟩
  · have hx2 : x = crcZs 8 low := ho.resolve_left h0
    subst hx2
    have g0 : (((crcZs 8 low : Nat) : Int) == 0) = false := by simpa using h0
    generalize crcZs 8 low = z at *
    clear ho hT e3 h0
    go_enter Try.func50, Try.ntmps50
    go_wp2_with fail
    go_ret
    exact ⟨rfl, HT.out, Keeps.refl _ _⟩

theorem zero_tab (w : World) : (zeroValue 68).run Try.prog w = .ok (.agg (Array.replicate 256 (.int .u32 0))) w := by kernel_rfl

/-- The closure, made: its table has noughts alone. -/
theorem crem_new (w : World) : Calls Try.prog 46 #[] w fun e w' => e = .returned (.func (.func 50) #[] #[.pointer (some ⟨w.heap.size, 0, none⟩)]) ∧ TabAt w' w.heap.size ∧ Keeps [] w w' := by
  have zv := zero_tab w
  have HT : Hid (TabAt (w.alloc (.cells (Array.replicate 256 (.int .u32 0)) 68)) w.heap.size) := ⟨_, _, heap_alloc_new' w _, by simp, fun i hi => ⟨0, by simp [hi], .inl rfl⟩⟩
  have HK : Hid (Keeps [] w (w.alloc (.cells (Array.replicate 256 (.int .u32 0)) 68))) := (Keeps.refl [] w).alloc _
  generalize Array.replicate 256 (Value.int .u32 0) = cs at *
  go_enter Try.func46, Try.ntmps46
  go_wp2_with fail
  go_ret
  exact ⟨rfl, HT.out, HK.out⟩

end Go.Proofs.Ytkcoiplhopdnlaa
