/- frames: what stands from each place on at which a frame may begin, gone over. -/
import Derived.RangeFuncNested
import Derived.RangeFuncBound
import Derived.RangeFuncCalls
import Derived.RangeFuncLeaves
import Derived.Shelf.Abstract
import Derived.Shelf.RegionOpen
import Derived.OwnWalkIn
import Derived.TacticsInMore
import Derived.LoopNIn
import Derived.LoopIn
import Derived.Test.YtkcoiplhopdnlaaF6
import Derived.Test.YtkcoiplhopdnlaaG3
namespace Go.Proofs.Ytkcoiplhopdnlaa
open Go.RowKit Go.Shelf
set_option linter.unusedVariables false
attribute [local go_sem] Oper.semAt_some

theorem slice_from (A : Option Addr) (n c at_ : Nat) (xs : List UInt8) (hn : xs.length = n) (hnc : n ≤ c) (hcm : c ≤ 9223372036854775807) (ha : at_ ≤ n) (hA : 0 < n → ∃ b o, A = some ⟨b, o, none⟩) :
    ∃ B d, (∀ W, (Instr.slice 27 (.slice A n c) (some (.int .i64 (at_ : Int))) none none).run Try.prog W = .ok (.slice B (n - at_) d) W) ∧ ∀ W, BytesAt W (.slice A n c) xs → BytesAt W (.slice B (n - at_) d) (xs.drop at_) := by
  have hr : ∀ W, (Instr.slice 27 (.slice A n c) (some (.int .i64 (at_ : Int))) none none).run Try.prog W = .ok (.slice (if c = at_ then A else A.map (·.add at_)) (n - at_) (c - at_)) W := by
    intro W
    rw [run_slice_l W 27 A n c (by simp [Program.elem, Try.underlying27]) .i64 _ (by omega) (by omega)]
    rw [show Try.prog.elem 27 = 5 by simp [Program.elem, Try.underlying27], Try.sizeOf5]
    simp [Result.andThen, sliced]
  refine ⟨_, _, hr, fun W hb => ?_⟩
  obtain ⟨A', c', he, h1, h2, h3⟩ := hb
  injection he with e1 e2 e3
  subst e1 e3
  refine ⟨_, _, by rw [List.length_drop, hn], by rw [List.length_drop]; omega, by omega, fun hp => ?_⟩
  rw [List.length_drop] at hp
  obtain ⟨b, o, rfl, hc⟩ := h3 (by omega)
  refine ⟨b, o + at_, ?_, fun i u hu => ?_⟩
  · rw [if_neg (by omega)]
    simp [add_at]
  · rw [List.getElem?_drop] at hu
    have := hc (at_ + i) u hu
    rwa [← Nat.add_assoc] at this

/-- The k'th place. -/
def plc (xs : List UInt8) (k : Nat) : Nat := offs ((recs xs).take k)
theorem plc_le (xs : List UInt8) (k : Nat) : plc xs k ≤ xs.length := offs_le xs k
theorem plc_next {xs : List UInt8} {k : Nat} (hk : k < (recs xs).length) : framed (xs.drop (plc xs k)) = true ∧ plc xs (k + 1) = plc xs k + (num4 (xs.drop (plc xs k)) + 11) := by
  obtain ⟨h1, h2, h3⟩ := recs_some hk
  have := recOf_len h1
  unfold plc
  rw [h3, ← h2]
  exact ⟨h1, by omega⟩

/-- What the bytes are, all the while. -/
def RestD (B : Nat) (A : Option Addr) (n c : Nat) (xs : List UInt8) (W : World) : Prop := W.cell? ⟨B, 0, none⟩ = some (.slice A n c) ∧ BytesAt W (.slice A n c) xs
def RestE (xs : List UInt8) (k : Nat) (args : Array Value) (W : World) : Prop := ∃ v, args = #[.int .i64 (plc xs k : Nat), v] ∧ BytesAt W v (xs.drop (plc xs k))

set_option maxRecDepth 100000 in
set_option maxHeartbeats 1000000 in
theorem rests_seq (B n c : Nat) (A : Option Addr) (xs : List UInt8) (hn : xs.length = n) : Seqs Try.prog 38 #[.pointer (some ⟨B, 0, none⟩)] (RestE xs) ((recs xs).length + 1) (recs xs).length (RestD B A n c xs) := by
  intro l J Jx W hD hJ hJx hY h0
  obtain ⟨hnc, hcm, hx⟩ := cap_of_bytes hD.2
  clear hx
  have hA : 0 < n → ∃ b o, A = some ⟨b, o, none⟩ := fun h => by
    obtain ⟨b, o, h1, _⟩ := bytes_addr hD.2 h
    exact ⟨b, o, h1⟩
  refine (callsIn_wide (n := 3)).1 ?_
  refine callsIn_of_wp Try.func38 rfl trivial ?_ rfl
  simp only [Try.ntmps38, List.size_toArray, List.length_cons, List.length_nil, Nat.reduceAdd, Nat.reduceSub, Array.replicate_succ, Array.replicate_zero, List.push_toArray, List.append_toArray, List.nil_append, List.cons_append]
  have HD := Lib.hid hD
  have HA := Lib.hid hA
  have HN := Lib.hid hn
  clear hD hA hn
  gi_wp2
  gi_loopw [3] (fun v wr => ∃ k : Nat, k ≤ (recs xs).length ∧ v = .int .i64 (plc xs k : Nat) ∧ J k wr ∧ Hid (RestD B A n c xs wr) ∧ W.heap.size ≤ wr.heap.size) (fun v _ => n - (intOf v).toNat)
  case atStart => exact ⟨0, Nat.zero_le _, rfl, h0, HD, Nat.le_refl _⟩
  case round =>
    obtain ⟨k, hk, rfl, hJk, HDk, hz⟩ := hrel
    have hp := plc_le xs k
    rw [HN.out] at hp
    obtain ⟨B', d', hsl, hsb⟩ := slice_from A n c (plc xs k) xs HN.out hnc hcm hp HA.out
    have hbs := hsb wr HDk.out.2
    have c0 := HDk.out.1
    have HY := hY k wr #[.int .i64 (plc xs k : Nat), .slice B' (n - plc xs k) d'] (by omega) hJk HDk.out hz ⟨_, rfl, hbs⟩
    obtain ⟨fn, tmps, assign, body, hy, hR⟩ := HY (3 - 1)
    have HSB := Lib.hid hsb
    clear hsb HY hbs
    gi_wp2
    refine hR.mono ?_
    rintro e W3 (⟨rfl, hlt, hJ3, hD3, ho3⟩ | ⟨rfl, hx3, ho3⟩)
    · obtain ⟨hf, hnx⟩ := plc_next hlt
      have hb3 := HSB.out W3 hD3.2
      have c3 := hD3.1
      have hfl := framed_iff.1 hf
      have hp1 := plc_le xs (k + 1)
      rw [HN.out] at hp1
      have hl4 := num4_lt (xs.drop (plc xs k))
      have HH := Lib.hid (head_in B' (n - plc xs k) d' (xs.drop (plc xs k)) W3 (by rw [List.length_drop, HN.out]) hb3 (by have := hfl.1; rw [List.length_drop, HN.out] at this; omega) (by omega))
      have HFS := Lib.hid (frame_size (num4 (xs.drop (plc xs k))) W3 hfl.2.1 hl4)
      have HD3 := Lib.hid hD3
      have HNX := Lib.hid hnx
      have h12 := hfl.2.1
      clear hfl hf hb3 hy hR c0 hD3
      rw [hnx] at hp1
      generalize num4 (xs.drop (plc xs k)) = h at *
      gi_wp2_with (first | (refine ⟨trivial, ?_⟩; gi_at_call 39; refine (callsIn_wide.2 HH.out).mono ?_; rintro e w' ⟨rfl, rfl⟩) | (refine ⟨trivial, ?_⟩; gi_at_call 17; refine (callsIn_wide.2 HFS.out).mono ?_; rintro e w' ⟨rfl, rfl⟩))
      go_roundw
      case rel => exact ⟨k + 1, by omega, by rw [HNX.out]; go_num, hJ3, HD3, by have := ho3.size; omega⟩
      case measure => simp [intOf]; omega
    · gi_wp2
      go_end0
      exact ⟨⟨_, rfl⟩, .inr ⟨k, by omega, hx3⟩⟩

theorem rests_is (A : Option Addr) (n c : Nat) (w : World) : Calls Try.prog 31 #[.slice A n c] w fun e w' => e = .returned (.func (.func 38) #[] #[.pointer (some ⟨w.heap.size, 0, none⟩)]) ∧ w.alloc (.cells #[.slice A n c] 27) = w' := by
  go_enter Try.func31, Try.ntmps31
  go_wp2_with fail
  go_ret
  exact ⟨rfl, rfl⟩

theorem records_is (A : Option Addr) (n c : Nat) (w : World) : Calls Try.prog 18 #[.slice A n c] w fun e w' => e = .returned (.func (.func 30) #[] #[.pointer (some ⟨w.heap.size, 0, none⟩)]) ∧ w.alloc (.cells #[.slice A n c] 27) = w' := by
  go_enter Try.func18, Try.ntmps18
  go_wp2_with fail
  go_ret
  exact ⟨rfl, rfl⟩

end Go.Proofs.Ytkcoiplhopdnlaa
