/- Rows of bytes: few, joined. -/
import Derived.Test.YtjcfdakcihhblaaK5
namespace Go.Proofs.Ytjcfdakcihhblaa
open Go.RowKit
set_option linter.unusedVariables false

structure Part where
  A : Option Addr
  c : Nat
  bs : List UInt8

structure PartsAt (w : World) (A : Option Addr) (len : Nat) (l : List Part) : Prop where
  len : l.length = len
  at_ : ∀ i x, l[i]? = some x → ∃ b o, A = some ⟨b, o, none⟩ ∧ w.cell? ⟨b, o + i, none⟩ = some (.slice x.A x.bs.length x.c) ∧ BytesAt w (.slice x.A x.bs.length x.c) x.bs ∧ x.bs.length ≤ 9223372036854775807

theorem PartsAt.keep {w w' : World} {A : Option Addr} {len : Nat} {l : List Part} (h : PartsAt w A len l) (hk : Keeps [] w w') : PartsAt w' A len l := by
  refine ⟨h.len, fun i x hx => ?_⟩
  obtain ⟨b, o, h1, h2, h3, h4⟩ := h.at_ i x hx
  exact ⟨b, o, h1, (hk.cell (lt_of_cell h2) (by simp)).trans h2, h3.grow hk, h4⟩

def total (l : List Part) : Nat := (l.map fun x => x.bs.length).sum
def fewP (l : List Part) : Bool := decide (l.length ≤ 20) && (l.all (fun x => decide (x.bs.length ≤ 3000)) && decide (total l ≤ 3000))

theorem total_snoc (l : List Part) (x : Part) : total (l ++ [x]) = total l + x.bs.length := by simp [total]

theorem few2_out (A : Option Addr) (len c : Nat) (w : World) (hm : len ≤ 9223372036854775807) (h : 20 < len) : Calls Try.prog 7 #[.slice A len c] w fun e w' => e = .returned (.bool false) ∧ w = w' := by
  go_enter Try.func7, Try.ntmps7
  go_wp2
  go_ret
  exact ⟨rfl, rfl⟩

theorem few2_in (A : Option Addr) (len c : Nat) (l : List Part) (w : World) (h : len ≤ 20) (hl : PartsAt w A len l) : Calls Try.prog 7 #[.slice A len c] w fun e w' => e = .returned (.bool (fewP l)) ∧ w = w' := by
  have HL := Lib.hid hl
  clear hl
  go_enter Try.func7, Try.ntmps7
  go_wp2
  go_loopw [3, 4] (fun v i wr => ∃ j s : Nat, i = .int .i64 (j : Int) ∧ j ≤ len ∧ v = .int .i64 (s : Int) ∧ s ≤ 3000 * j ∧ Hid (s = total (l.take j) ∧ ((l.take j).all (fun x => decide (x.bs.length ≤ 3000))) = true) ∧ wr = w) (fun _ i _ => len - (intOf i).toNat)
  case atStart => exact ⟨0, 0, rfl, Nat.zero_le _, rfl, by omega, ⟨by simp [total], by simp⟩, rfl⟩
  case round =>
    obtain ⟨j, s, rfl, hj, rfl, hs, HS, rfl⟩ := hrel
    by_cases hlt : j < len
    · have hll := HL.out.len
      have hx : l[j]? = some (l[j]'(by omega)) := List.getElem?_eq_getElem (by omega)
      obtain ⟨b, o, rfl, c0, hb, hm⟩ := HL.out.at_ j _ hx
      have ht : l.take (j + 1) = l.take j ++ [l[j]'(by omega)] := List.take_succ_eq_append_getElem (by omega)
      have hmem : l[j]'(by omega) ∈ l := List.getElem_mem _
      generalize l[j]'(by omega) = x at *
      have HT := Lib.hid ht
      have HM := Lib.hid hmem
      clear hb hx ht hmem
      by_cases h3 : x.bs.length ≤ 3000
      · have HS2 : Hid (s + x.bs.length = total (l.take (j + 1)) ∧ ((l.take (j + 1)).all (fun x => decide (x.bs.length ≤ 3000))) = true) := by
          constructor
          · rw [HT.out, total_snoc, ← HS.out.1]
          · rw [HT.out, List.all_append, HS.out.2]
            simp [h3]
        go_wp2_with fail
        go_roundw
        case rel => exact ⟨j + 1, s + x.bs.length, by go_num, by omega, by go_num, by omega, HS2, trivial⟩
        case measure => simp [intOf]; omega
      · have HF : Hid (fewP l = false) := by
          show _ = _
          have : (l.all fun x => decide (x.bs.length ≤ 3000)) = false := by
            rw [List.all_eq_false]
            exact ⟨x, HM.out, by simpa using h3⟩
          simp [fewP, this]
        go_wp2_with fail
        go_ret
        exact ⟨by rw [HF.out]; rfl, rfl⟩
    · have HF : Hid (fewP l = decide ((s : Int) ≤ 3000)) := by
        show _ = _
        have h0 := HL.out.len
        have h1 := HS.out
        rw [List.take_of_length_le (by omega)] at h1
        unfold fewP
        rw [h1.2, ← h1.1, decide_eq_true (show l.length ≤ 20 by omega), Bool.true_and, Bool.true_and]
        simp only [decide_eq_decide]
        omega
      go_wp2_with fail
      go_ret
      exact ⟨by rw [HF.out]; rfl, rfl⟩

theorem few2_is (A : Option Addr) (len c : Nat) (l : List Part) (w : World) (hl : PartsAt w A len l) (hm : len ≤ 9223372036854775807) : Calls Try.prog 7 #[.slice A len c] w fun e w' => e = .returned (.bool (fewP l)) ∧ w = w' := by
  by_cases h : len ≤ 20
  · exact few2_in A len c l w h hl
  · have e : fewP l = false := by
      have : decide (l.length ≤ 20) = false := decide_eq_false (by rw [hl.len]; exact h)
      simp [fewP, this]
    rw [e]
    exact few2_out A len c w hm (by omega)

theorem fewP_true {l : List Part} (h : fewP l = true) : l.length ≤ 20 ∧ (∀ x ∈ l, x.bs.length ≤ 3000) ∧ total l ≤ 3000 := by
  simp only [fewP, Bool.and_eq_true, decide_eq_true_eq, List.all_eq_true] at h
  exact ⟨h.1, h.2.1, h.2.2⟩

end Go.Proofs.Ytjcfdakcihhblaa
