/- The document's own disk: Pick, Arm, step, Now. -/
import Derived.Test.YtadpomclnhemoaaR2
namespace Go.Proofs.Ytadpomclnhemoaa
open Go.RowKit
set_option linter.unusedVariables false

theorem tmod_pick (k m : Int) (hm : 0 < m) : (if k.tmod m < 0 then k.tmod m + m else k.tmod m) = k % m := by
  have h1 : -m < k.tmod m := by
    rcases Int.le_total 0 k with h | h
    · have := Int.tmod_nonneg m h; omega
    · have := Int.neg_tmod k m
      have h3 : 0 ≤ (-k).tmod m := Int.tmod_nonneg m (by omega)
      have h4 : (-k).tmod m < m := Int.tmod_lt_of_pos _ hm
      omega
  have h2 : k.tmod m < m := Int.tmod_lt_of_pos _ hm
  have h3 : k.tmod m = k - m * (k.tdiv m) := by have := Int.mul_tdiv_add_tmod k m; omega
  split
  · rw [← Int.emod_eq_of_lt (a := k.tmod m + m) (b := m) (by omega) (by omega), h3, show k - m * (k.tdiv m) + m = k + m * (1 - k.tdiv m) from by rw [Int.mul_sub]; omega, Int.add_mul_emod_self_left]
  · rw [← Int.emod_eq_of_lt (a := k.tmod m) (b := m) (by omega) (by omega), h3, show k - m * (k.tdiv m) = k + m * (- k.tdiv m) from by rw [Int.mul_neg]; omega, Int.add_mul_emod_self_left]

theorem refpick_any (k n : Int) (K : Nat) (w : World) (hK : k % (n + 1) = (K : Int)) (hk : i64 k) (hn : 0 ≤ n) (hn2 : n ≤ 4611686018427387904) :
    Calls Try.prog 51 #[.int .i64 k, .int .i64 n] w fun e w' => e = .returned (.int .i64 (K : Int)) ∧ w = w' := by
  obtain ⟨hk1, hk2⟩ := hk
  have hp := tmod_pick k (n + 1) (by omega)
  rw [hK] at hp
  have hz : (n + 1 == 0) = false := by simp; omega
  have hb1 : -(n + 1) < k.tmod (n + 1) := by
    rcases Int.le_total 0 k with h | h
    · have := Int.tmod_nonneg (n + 1) h; omega
    · have := Int.neg_tmod k (n + 1)
      have h3 : 0 ≤ (-k).tmod (n + 1) := Int.tmod_nonneg (n + 1) (by omega)
      have h4 : (-k).tmod (n + 1) < n + 1 := Int.tmod_lt_of_pos _ (by omega)
      omega
  have hb2 : k.tmod (n + 1) < n + 1 := Int.tmod_lt_of_pos _ (by omega)
  by_cases hneg : k.tmod (n + 1) < 0
  · rw [if_pos hneg] at hp
    have HP := Lib.hid hp
    clear hp hK
    go_enter Try.func51, Try.ntmps51
    go_wp2
    go_ret
    exact ⟨ret_int (by have := HP.out; omega), rfl⟩
  · rw [if_neg hneg] at hp
    have HP := Lib.hid hp
    clear hp hK
    go_enter Try.func51, Try.ntmps51
    go_wp2
    go_ret
    exact ⟨ret_int HP.out, rfl⟩

theorem refarm_any (r : Rf) (n : Int) (w : World) (hn : i64 n) :
    Calls Try.prog 31 #[r.v, .int .i64 n] w fun e w' => e = .returned (r.nums (max n (-1)) r.lim r.done).v ∧ Below w.heap.size w w' := by
  obtain ⟨h1, h2⟩ := hn
  unfold Rf.v
  by_cases h : 0 ≤ n
  · have hm : max n (-1) = n := by omega
    rw [show (r.nums (max n (-1)) r.lim r.done).armed = n from hm]
    clear hm
    go_enter Try.func31, Try.ntmps31
    go_wp2
    exact bodyPost_ret (v := .agg #[.slice r.AL r.L.length r.cL, .slice r.AW r.W.length r.cW, .int .i64 n, .int .i64 (r.lim : Int), .int .i64 (r.done : Int)]) (by simp [results, Try.results31, go_sem]) rfl ⟨rfl, ((Below.refl _ _).alloc (Nat.le_refl _) _).alloc (by simp) _⟩
  · have hm : max n (-1) = -1 := by omega
    rw [show (r.nums (max n (-1)) r.lim r.done).armed = -1 from hm]
    clear hm
    go_enter Try.func31, Try.ntmps31
    go_wp2
    exact bodyPost_ret (v := .agg #[.slice r.AL r.L.length r.cL, .slice r.AW r.W.length r.cW, .int .i64 (-1), .int .i64 (r.lim : Int), .int .i64 (r.done : Int)]) (by simp [results, Try.results31, go_sem]) rfl ⟨rfl, ((Below.refl _ _).alloc (Nat.le_refl _) _).alloc (by simp) _⟩

theorem refstep_no (r : Rf) (w : World) (h : r.armed = 0) :
    Calls Try.prog 50 #[r.v] w fun e w' => e = .returned (.tuple #[r.v, .bool false]) ∧ Below w.heap.size w w' := by
  have h0 : (r.armed == 0) = true := by simpa using h
  clear h
  unfold Rf.v
  go_enter Try.func50, Try.ntmps50
  go_wp2
  exact bodyPost_ret (v := .tuple #[.agg #[.slice r.AL r.L.length r.cL, .slice r.AW r.W.length r.cW, .int .i64 r.armed, .int .i64 (r.lim : Int), .int .i64 (r.done : Int)], .bool false]) (by simp [results, Try.results50, go_sem]) rfl ⟨rfl, ((Below.refl _ _).alloc (Nat.le_refl _) _).alloc (by simp) _⟩

theorem refstep_yes (r : Rf) (w : World) (h : r.armed ≠ 0) (hlo : -1 ≤ r.armed) (hhi : r.armed ≤ 9223372036854775807) (hd : r.done < 4611686018427387904) :
    Calls Try.prog 50 #[r.v] w fun e w' => e = .returned (.tuple #[(r.nums (lessOne r.armed) r.lim (r.done + 1)).v, .bool true]) ∧ Below w.heap.size w w' := by
  have h0 : (r.armed == 0) = false := by simpa using h
  unfold Rf.v
  by_cases hp : 0 < r.armed
  · rw [show (r.nums (lessOne r.armed) r.lim (r.done + 1)).armed = r.armed - 1 from by simp [Rf.nums, lessOne, hp]]
    clear h
    go_enter Try.func50, Try.ntmps50
    go_wp2
    exact bodyPost_ret (v := .tuple #[.agg #[.slice r.AL r.L.length r.cL, .slice r.AW r.W.length r.cW, .int .i64 (r.armed - 1), .int .i64 (r.lim : Int), .int .i64 ((r.done : Int) + 1)], .bool true]) (by simp [results, Try.results50, go_sem]) rfl ⟨rfl, ((Below.refl _ _).alloc (Nat.le_refl _) _).alloc (by simp) _⟩
  · rw [show (r.nums (lessOne r.armed) r.lim (r.done + 1)).armed = r.armed from by simp [Rf.nums, lessOne, hp]]
    clear h
    go_enter Try.func50, Try.ntmps50
    go_wp2
    exact bodyPost_ret (v := .tuple #[.agg #[.slice r.AL r.L.length r.cL, .slice r.AW r.W.length r.cW, .int .i64 r.armed, .int .i64 (r.lim : Int), .int .i64 ((r.done : Int) + 1)], .bool true]) (by simp [results, Try.results50, go_sem]) rfl ⟨rfl, ((Below.refl _ _).alloc (Nat.le_refl _) _).alloc (by simp) _⟩

theorem reflaid_opt (A : Option Addr) (n cL : Nat) (AW : Option Addr) (m cW : Nat) (L : List UInt8) (W : List Wt) (w : World) (hn : L.length = n) (hn0 : 0 < n) (hn1 : n ≤ 262144) (hL : BytesAt w (.slice A n cL) L) (hW : w.ownsRow 0 88 2 (.slice AW m cW) m (wcells W)) (hm : W.length = m) (hm1 : m ≤ 1000000)
    (hfit : ∀ x ∈ W, BytesAt w x.v x.xs ∧ x.off + x.xs.length ≤ n) :
    Calls Try.prog 36 #[.slice A n cL, .slice AW m cW] w fun e w' => ∃ g c, e = .returned (.slice (some ⟨g, 0, none⟩) n c) ∧ w'.ownsRow w.heap.size 5 1 (.slice (some ⟨g, 0, none⟩) n c) n ((layAll L (wdat W)).map bv) ∧ Below w.heap.size w w' := by
  obtain ⟨b, o, rfl, _⟩ := bytes_addr hL hn0
  exact reflaid_any ⟨b, o, none⟩ n cL AW m cW L W w hn hn0 hn1 hL hW hm hm1 hfit

theorem refnow_any (r : Rf) (w : World) (h : RefAt w r) (hW : r.W.length ≤ 1000000) :
    Calls Try.prog 16 #[r.v] w fun e w' => ∃ g c, e = .returned (.slice (some ⟨g, 0, none⟩) r.L.length c) ∧ w'.ownsRow w.heap.size 5 1 (.slice (some ⟨g, 0, none⟩) r.L.length c) r.L.length ((layAll r.L (wdat r.W)).map bv) ∧ Below w.heap.size w w' := by
  have h1 := h.grow ((Keeps.refl [] w).alloc (.cells #[.slice r.AL r.L.length r.cL, .slice r.AW r.W.length r.cW, .int .i64 r.armed, .int .i64 (r.lim : Int), .int .i64 (r.done : Int)] 32))
  have RL := Lib.hid (reflaid_opt r.AL r.L.length r.cL r.AW r.W.length r.cW r.L r.W _ rfl h.pos h.big h1.la h1.wa rfl hW h1.fit)
  unfold Rf.v
  clear h h1
  go_enter Try.func16, Try.ntmps16
  go_wp2_with fail
  refine RL.out.mono ?_
  rintro e w1 ⟨g, c, rfl, ho, hb⟩
  have HO := Lib.hid ho
  have HB : Hid (Below w.heap.size w w1) := ((Below.refl _ w).alloc (Nat.le_refl _) _).trans (hb.mono (by simp))
  clear ho hb RL
  go_wp2
  go_ret
  exact ⟨g, c, rfl, HO.out.mono (by simp), HB.out⟩

end Go.Proofs.Ytadpomclnhemoaa
