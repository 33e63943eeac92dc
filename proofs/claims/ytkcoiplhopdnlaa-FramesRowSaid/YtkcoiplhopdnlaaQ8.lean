/- Rows of records: few; frames, one behind the other. -/
import Derived.Test.YtkcoiplhopdnlaaQ5
import Derived.Test.YtkcoiplhopdnlaaK9
namespace Go.Proofs.Ytkcoiplhopdnlaa
open Go.RowKit
set_option linter.unusedVariables false

def fewR (l : List Part) : Bool := decide (l.length ≤ 12) && l.all (fun x => decide (x.bs.length ≤ 500))
theorem fewR_true {l : List Part} (h : fewR l = true) : l.length ≤ 12 ∧ ∀ x ∈ l, x.bs.length ≤ 500 := by
  simp only [fewR, Bool.and_eq_true, decide_eq_true_eq, List.all_eq_true] at h
  exact h

theorem few3_out (A : Option Addr) (len c : Nat) (w : World) (hm : len ≤ 9223372036854775807) (h : 12 < len) : Calls Try.prog 4 #[.slice A len c] w fun e w' => e = .returned (.bool false) ∧ w = w' := by
  go_enter Try.func4, Try.ntmps4
  go_wp2
  go_ret
  exact ⟨rfl, rfl⟩

theorem few3_in (A : Option Addr) (len c : Nat) (l : List Part) (w : World) (h : len ≤ 12) (hl : PartsAt w A len l) : Calls Try.prog 4 #[.slice A len c] w fun e w' => e = .returned (.bool (fewR l)) ∧ w = w' := by
  have HL := Lib.hid hl
  clear hl
  go_enter Try.func4, Try.ntmps4
  go_wp2_with fail
  go_loopw [3] (fun i wr => ∃ j : Nat, i = .int .i64 (j : Int) ∧ j ≤ len ∧ Hid (((l.take j).all (fun x => decide (x.bs.length ≤ 500))) = true) ∧ wr = w) (fun i _ => len - (intOf i).toNat)
  case atStart => exact ⟨0, rfl, Nat.zero_le _, by simp [Hid], rfl⟩
  case round =>
    obtain ⟨j, rfl, hj, HS, rfl⟩ := hrel
    by_cases hlt : j < len
    · have hll := HL.out.len
      have hx : l[j]? = some (l[j]'(by omega)) := List.getElem?_eq_getElem (by omega)
      obtain ⟨b, o, rfl, c0, hb, hm⟩ := HL.out.at_ j _ hx
      have ht : l.take (j + 1) = l.take j ++ [l[j]'(by omega)] := List.take_succ_eq_append_getElem (by omega)
      have hmem : l[j]'(by omega) ∈ l := List.getElem_mem _
      generalize l[j]'(by omega) = x at *
      have HT := Lib.hid ht
      have HM := Lib.hid hmem
      clear hb hx ht hmem
      by_cases h3 : x.bs.length ≤ 500
      · have HS2 : Hid (((l.take (j + 1)).all (fun x => decide (x.bs.length ≤ 500))) = true) := by
          show _ = _
          rw [HT.out, List.all_append, HS.out]
          simp [h3]
        go_wp2_with fail
        go_roundw
        case rel => exact ⟨j + 1, by go_num, by omega, HS2, trivial⟩
        case measure => simp [intOf]; omega
      · have HF : Hid (fewR l = false) := by
          show _ = _
          have : (l.all fun x => decide (x.bs.length ≤ 500)) = false := by
            rw [List.all_eq_false]
            exact ⟨x, HM.out, by simpa using h3⟩
          simp [fewR, this]
        go_wp2_with fail
        go_ret
        exact ⟨by rw [HF.out]; rfl, rfl⟩
    · have HF : Hid (fewR l = true) := by
        show _ = _
        have h0 := HL.out.len
        have h1 := HS.out
        rw [List.take_of_length_le (by omega)] at h1
        unfold fewR
        rw [h1, decide_eq_true (show l.length ≤ 12 by omega)]
        rfl
      go_wp2_with fail
      go_ret
      exact ⟨by rw [HF.out]; rfl, rfl⟩

theorem few3_is (A : Option Addr) (len c : Nat) (l : List Part) (w : World) (hl : PartsAt w A len l) (hm : len ≤ 9223372036854775807) : Calls Try.prog 4 #[.slice A len c] w fun e w' => e = .returned (.bool (fewR l)) ∧ w = w' := by
  by_cases h : len ≤ 12
  · exact few3_in A len c l w h hl
  · have e : fewR l = false := by
      have : decide (l.length ≤ 12) = false := decide_eq_false (by rw [hl.len]; exact h)
      simp [fewR, this]
    rw [e]
    exact few3_out A len c w hm (by omega)

/-- The records of a row. -/
def rowOf (l : List Part) : List (List UInt8) := l.map fun x => x.bs
theorem rowOf_get {l : List Part} {k : Nat} {x : Part} (h : l[k]? = some x) : (rowOf l)[k]? = some x.bs := by simp [rowOf, h]
theorem rowOf_short {l : List Part} (h : ∀ x ∈ l, x.bs.length ≤ 500) : ∀ r ∈ rowOf l, r.length ≤ 32768 := fun r hr => by
  obtain ⟨x, hx, rfl⟩ := List.mem_map.1 hr
  have := h x hx
  omega
theorem joinF_snoc (l : List (List UInt8)) (r : List UInt8) : joinF (l ++ [r]) = joinF l ++ frameOf r := by simp [joinF]
theorem offs_few {l : List Part} (h : ∀ x ∈ l, x.bs.length ≤ 500) : ∀ k, offs (rowOf (l.take k)) ≤ 512 * k := by
  intro k
  induction k with
  | zero => simp [rowOf, offs]
  | succ k ih =>
    rcases Nat.lt_or_ge k l.length with hk | hk
    · rw [List.take_succ_eq_append_getElem hk]
      have := h _ (List.getElem_mem hk)
      unfold rowOf at ih ⊢
      rw [List.map_append, List.map_cons, List.map_nil, offs_snoc]
      omega
    · rw [List.take_of_length_le (by omega)]
      rw [List.take_of_length_le (by omega)] at ih
      omega

end Go.Proofs.Ytkcoiplhopdnlaa
