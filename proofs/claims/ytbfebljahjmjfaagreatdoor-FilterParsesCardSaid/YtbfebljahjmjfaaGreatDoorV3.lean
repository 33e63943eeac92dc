
/- entry: slices.Values, and what is gathered of it. -/
import Derived.RangeFuncNested
import Derived.RangeFuncFrom
import Derived.RangeFuncBound
import Derived.RangeFuncCalls
import Derived.RangeFuncLeaves
import Derived.RangeFuncBox
import Derived.Shelf.Abstract
import Derived.OwnWalkIn
import Derived.TacticsInMore
import Derived.LoopNIn
import Derived.LoopIn
import Derived.Laws.EntriesVeiled
import Derived.Test.YtbfebljahjmjfaaGreatDoorV2
namespace Go.Proofs.YtbfebljahjmjfaaGreatDoor
open Go.RowKit Go.Shelf
set_option linter.unusedVariables false
set_option linter.unusedSimpArgs false
attribute [local go_sem] Oper.semAt_some

theorem values_is (A : Option Addr) (n c : Nat) (w : World) : Calls Tryz.prog 287 #[.slice A n c] w fun e w' => e = .returned (.func (.func 321) #[] #[.pointer (some ⟨w.heap.size, 0, none⟩)]) ∧ w.alloc (.cells #[.slice A n c] 68) = w' := by
  go_enter Tryz.func287, Tryz.ntmps287
  go_wp2_with fail
  go_ret
  exact ⟨rfl, rfl⟩

set_option maxRecDepth 100000 in
set_option maxHeartbeats 2000000 in
theorem viter_in (F : Fence) (n : Nat) (hf : F.fn 321) (hro : F.round = none) (hn : 1 ≤ n) (lp Bs n₀ len c : Nat) (A : Option Addr) (l : List Txt) (hm : len ≤ 9223372036854775807) (J Jx : List Txt → World → Prop)
    (hY : ∀ pre x W, J pre W → pre.length < l.length → YieldAt F (n - 1) Tryz.prog lp #[tv x] W fun e W' =>
      (e = .returned (.bool true) ∧ J (pre ++ [x]) W' ∧ Below n₀ W W') ∨ (e = .returned (.bool false) ∧ Jx (pre ++ [x]) W'))
    (W : World) (hBs : W.cell? ⟨Bs, 0, none⟩ = some (.slice A len c)) (hP : StrsIn W A len l) (hA : 0 < len → ∀ b o, A = some ⟨b, o, none⟩ → b < n₀) (h0 : J [] W) :
    CallsIn F n Tryz.prog 321 #[.func (.yield lp) #[] #[], .pointer (some ⟨Bs, 0, none⟩)] W fun e W' => (∃ v, e = .returned v) ∧
      ((∃ ys, ys = l ∧ J ys W') ∨ (∃ pre, True ∧ Jx pre W')) := by
  have HP := Lib.hid hP
  clear hP
  refine callsIn_of_wp Tryz.func321 rfl hf ?_ hro
  simp only [Tryz.ntmps321, List.size_toArray, List.length_cons, List.length_nil, Nat.reduceAdd, Nat.reduceSub, Array.replicate_succ, Array.replicate_zero, List.push_toArray, List.append_toArray, List.nil_append, List.cons_append]
  gi_wp2
  gi_loopw [4, 7] (fun v i wr => ∃ j : Nat, j ≤ len ∧ i = .int .i64 (j : Int) ∧ J (l.take j) wr ∧ Hid (Below n₀ W wr)) (fun _ i _ => len - (intOf i).toNat)
  case atStart => exact ⟨0, Nat.zero_le _, rfl, by simpa using h0, Below.refl _ _⟩
  case round =>
    obtain ⟨j, hj, rfl, hJ, HK⟩ := hrel
    by_cases hlt : j < len
    · obtain ⟨hl, hp, hc9⟩ := HP.out
      obtain ⟨b, o, hA9, hcc⟩ := hc9 (by omega)
      have hb := hA (by omega) b o hA9
      subst hA9
      obtain ⟨s, hu⟩ : ∃ s, l[j]? = some s := ⟨_, List.getElem?_eq_getElem (by omega)⟩
      have htk : l.take (j + 1) = l.take j ++ [s] := by rw [List.take_add_one, hu]; rfl
      have c1 := (HK.out.cell (p := ⟨b, o + j, none⟩) hb).trans (hcc j s hu)
      have hJl : (l.take j).length < l.length := by rw [List.length_take]; omega
      obtain ⟨fn, tmps, assign, body, hy, hR⟩ := hY (l.take j) s wr hJ hJl
      have HT := Lib.hid htk
      unfold tv at c1 hy
      have hji : (j : Int) < (len : Int) := by omega
      clear hcc hu hc9 hp hl hJl htk hb
      gi_wp2
      refine hR.mono ?_
      rintro e W3 (⟨rfl, hJ3, hk3⟩ | ⟨rfl, hJx3⟩)
      · have hJ4 : J (l.take (j + 1)) W3 := by rw [HT.out]; exact hJ3
        have HK3 := Lib.hid (HK.out.trans hk3)
        gi_wp2
        go_roundw
        case rel => exact ⟨j + 1, by omega, by simp, hJ4, HK3⟩
        case measure => simp [intOf]; omega
      · gi_wp2
        refine bodyPost_ret (results_none rfl _ _ _) rfl ?_
        exact ⟨⟨_, rfl⟩, .inr ⟨_, trivial, hJx3⟩⟩
    · obtain rfl : j = len := by omega
      have hJ4 : J l wr := by
        rw [List.take_of_length_le (by rw [HP.out.1]; exact Nat.le_refl _)] at hJ
        exact hJ
      gi_wp2
      go_end0
      exact ⟨⟨_, rfl⟩, .inl ⟨_, rfl, hJ4⟩⟩

theorem viter_stops (F : Fence) (n : Nat) (hf : F.fn 321) (hro : F.round = none) (hn : 1 ≤ n) (Bs n₀ len c : Nat) (A : Option Addr) (l : List Txt) (hm : len ≤ 9223372036854775807) (w : World) (hBs : Bs < w.heap.size) (hn₀ : n₀ ≤ w.heap.size)
    (hc : w.cell? ⟨Bs, 0, none⟩ = some (.slice A len c)) (hP : StrsIn w A len l) (hA : 0 < len → ∀ b o, A = some ⟨b, o, none⟩ → b < n₀) :
    SeqStopsK F n Tryz.prog 321 #[.pointer (some ⟨Bs, 0, none⟩)] (fun x : Txt => #[tv x]) (Below n₀) (fun ys => ys = l) (fun _ => True) l.length w := fun lp J Jx W hW _ _ hY h0 => by
  have hP2 : StrsIn W A len l := StrsIn.grow (Keeps.of_below hW) hP
  exact viter_in F n hf hro hn lp Bs n₀ len c A l hm J Jx hY W ((hW.cell (p := ⟨Bs, 0, none⟩) hBs).trans hc) hP2 hA h0
end Go.Proofs.YtbfebljahjmjfaaGreatDoor
