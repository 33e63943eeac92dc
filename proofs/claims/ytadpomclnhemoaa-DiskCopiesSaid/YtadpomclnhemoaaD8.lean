/- doAgain over the writes that wait, whatever closure it is handed. -/
import Derived.Test.YtadpomclnhemoaaD7
namespace Go.Proofs.Ytadpomclnhemoaa
open Go.RowKit
set_option linter.unusedVariables false

theorem wcells_at {W done rest : List Wt} {x : Wt} (h : W = done ++ x :: rest) : (wcells W)[done.length * 2]? = some (.int .i64 (x.off : Int)) ∧ (wcells W)[done.length * 2 + 1]? = some x.v := by
  have hl : ∀ D : List Wt, (wcells D).length = D.length * 2 := by
    intro D
    induction D with
    | nil => rfl
    | cons y D ih => simp only [wcells, List.flatMap_cons, List.length_append, List.length_cons, List.length_nil] at ih ⊢; omega
  have e : wcells W = wcells done ++ (.int .i64 (x.off : Int) :: x.v :: wcells rest) := by subst h; simp [wcells]
  rw [e, List.getElem?_append_right (by rw [hl]; omega), List.getElem?_append_right (by rw [hl]; omega), hl]
  simp

set_option maxHeartbeats 400000 in
theorem doagain_SyncFn (b : Value) (Aq : Option Addr) (cq n : Nat) (W : List Wt) (I : List Wt → World → Prop) (w : World) (hn : W.length = n) (hW : n ≤ 1000000) (h0 : I [] w)
    (hrow : ∀ done wr, I done wr → wr.ownsRow 0 77 2 (.slice Aq n cq) n (wcells W)) (hal : ∀ done wr o, I done wr → I done (wr.alloc o)) (hsl : ∀ x ∈ W, ∃ A m c, x.v = .slice A m c)
    (hstep : ∀ done x rest wr, W = done ++ x :: rest → I done wr → Calls Try.prog 40 #[.agg #[.int .i64 (x.off : Int), x.v], b] wr fun e w' => e = .returned (.tuple #[]) ∧ I (done ++ [x]) w') :
    Calls Try.prog 39 #[.slice Aq n cq, .func (.func 40) #[] #[b]] w fun e w' => e = .returned (.tuple #[]) ∧ I W w' := by
  have HN := Lib.hid hn
  have H0 := Lib.hid h0
  have HR := Lib.hid hrow
  have HA := Lib.hid hal
  have HS := Lib.hid hstep
  have HL := Lib.hid hsl
  clear hn h0 hrow hal hstep hsl
  go_enter Try.func39, Try.ntmps39
  go_wp2
  go_loopw [8] (fun i wr => ∃ j : Nat, i = .int .i64 (j : Int) ∧ j ≤ n ∧ Hid (I (W.take j) wr)) (fun i _ => n - (intOf i).toNat)
  case atStart => exact ⟨0, rfl, Nat.zero_le _, show I _ _ by simpa using H0.out⟩
  case round =>
    obtain ⟨j, rfl, hj, HI⟩ := hrel
    by_cases hlt : j < n
    · obtain ⟨x, rest, hx⟩ : ∃ x rest, W = W.take j ++ x :: rest := by
        refine ⟨W[j]'(by have := HN.out; omega), W.drop (j + 1), ?_⟩
        rw [← List.drop_eq_getElem_cons, List.take_append_drop]
      have hlen : (W.take j).length = j := by have := HN.out; simp; omega
      have hcs := wcells_at hx
      rw [hlen] at hcs
      have hr := HR.out _ _ HI.out
      obtain ⟨g, cap, hv, _, hgl⟩ := hr.form (by omega)
      injection hv with hv1 _ hv3
      subst hv1
      subst hv3
      have hc0 := hr.cellAt (j * 2) (by omega)
      have hc1 := hr.cellAt (j * 2 + 1) (by omega)
      rw [hcs.1] at hc0
      rw [hcs.2] at hc1
      obtain ⟨A, m, c, hxv⟩ := HL.out x (by rw [hx]; simp)
      rw [hxv] at hc1
      have HX := Lib.hid hx
      have HV := Lib.hid hxv
      have hnext : W.take (j + 1) = W.take j ++ [x] := by
        conv => lhs; rw [hx]
        rw [List.take_append, hlen, List.take_of_length_le (by omega), show j + 1 - j = 1 from by omega]
        simp
      have HNX := Lib.hid hnext
      clear hx hxv hnext hcs hr hlen
      go_wp2_with fail
      have hst := HS.out _ _ _ _ HX.out (HA.out _ _ (.cells #[.int .i64 (x.off : Int), .slice A m c] 77) HI.out)
      rw [HV.out] at hst
      refine hst.mono ?_
      rintro e w2 ⟨rfl, hI2⟩
      rw [← HNX.out] at hI2
      have HI2 : Hid (I (W.take (j + 1)) w2) := hI2
      clear hst hI2
      go_wp2
      go_roundw
      case rel => exact ⟨j + 1, by go_num, by omega, HI2⟩
      case measure => simp [intOf]; omega
    · go_wp2
      go_end0
      have hjn : j = n := by omega
      subst hjn
      refine ⟨rfl, ?_⟩
      have := HI.out
      rwa [List.take_of_length_le (by have := HN.out; omega)] at this

set_option maxHeartbeats 400000 in
theorem doagain_TornFn (b : Value) (Aq : Option Addr) (cq n : Nat) (W : List Wt) (I : List Wt → World → Prop) (w : World) (hn : W.length = n) (hW : n ≤ 1000000) (h0 : I [] w)
    (hrow : ∀ done wr, I done wr → wr.ownsRow 0 77 2 (.slice Aq n cq) n (wcells W)) (hal : ∀ done wr o, I done wr → I done (wr.alloc o)) (hsl : ∀ x ∈ W, ∃ A m c, x.v = .slice A m c)
    (hstep : ∀ done x rest wr, W = done ++ x :: rest → I done wr → Calls Try.prog 52 #[.agg #[.int .i64 (x.off : Int), x.v], b] wr fun e w' => e = .returned (.tuple #[]) ∧ I (done ++ [x]) w') :
    Calls Try.prog 39 #[.slice Aq n cq, .func (.func 52) #[] #[b]] w fun e w' => e = .returned (.tuple #[]) ∧ I W w' := by
  have HN := Lib.hid hn
  have H0 := Lib.hid h0
  have HR := Lib.hid hrow
  have HA := Lib.hid hal
  have HS := Lib.hid hstep
  have HL := Lib.hid hsl
  clear hn h0 hrow hal hstep hsl
  go_enter Try.func39, Try.ntmps39
  go_wp2
  go_loopw [8] (fun i wr => ∃ j : Nat, i = .int .i64 (j : Int) ∧ j ≤ n ∧ Hid (I (W.take j) wr)) (fun i _ => n - (intOf i).toNat)
  case atStart => exact ⟨0, rfl, Nat.zero_le _, show I _ _ by simpa using H0.out⟩
  case round =>
    obtain ⟨j, rfl, hj, HI⟩ := hrel
    by_cases hlt : j < n
    · obtain ⟨x, rest, hx⟩ : ∃ x rest, W = W.take j ++ x :: rest := by
        refine ⟨W[j]'(by have := HN.out; omega), W.drop (j + 1), ?_⟩
        rw [← List.drop_eq_getElem_cons, List.take_append_drop]
      have hlen : (W.take j).length = j := by have := HN.out; simp; omega
      have hcs := wcells_at hx
      rw [hlen] at hcs
      have hr := HR.out _ _ HI.out
      obtain ⟨g, cap, hv, _, hgl⟩ := hr.form (by omega)
      injection hv with hv1 _ hv3
      subst hv1
      subst hv3
      have hc0 := hr.cellAt (j * 2) (by omega)
      have hc1 := hr.cellAt (j * 2 + 1) (by omega)
      rw [hcs.1] at hc0
      rw [hcs.2] at hc1
      obtain ⟨A, m, c, hxv⟩ := HL.out x (by rw [hx]; simp)
      rw [hxv] at hc1
      have HX := Lib.hid hx
      have HV := Lib.hid hxv
      have hnext : W.take (j + 1) = W.take j ++ [x] := by
        conv => lhs; rw [hx]
        rw [List.take_append, hlen, List.take_of_length_le (by omega), show j + 1 - j = 1 from by omega]
        simp
      have HNX := Lib.hid hnext
      clear hx hxv hnext hcs hr hlen
      go_wp2_with fail
      have hst := HS.out _ _ _ _ HX.out (HA.out _ _ (.cells #[.int .i64 (x.off : Int), .slice A m c] 77) HI.out)
      rw [HV.out] at hst
      refine hst.mono ?_
      rintro e w2 ⟨rfl, hI2⟩
      rw [← HNX.out] at hI2
      have HI2 : Hid (I (W.take (j + 1)) w2) := hI2
      clear hst hI2
      go_wp2
      go_roundw
      case rel => exact ⟨j + 1, by go_num, by omega, HI2⟩
      case measure => simp [intOf]; omega
    · go_wp2
      go_end0
      have hjn : j = n := by omega
      subst hjn
      refine ⟨rfl, ?_⟩
      have := HI.out
      rwa [List.take_of_length_le (by have := HN.out; omega)] at this

end Go.Proofs.Ytadpomclnhemoaa
