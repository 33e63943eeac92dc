/- countStep, Arm, Limit, Read: numbers of the struct turned, bytes told. -/
import Derived.Test.YtadpomclnhemoaaD4
namespace Go.Proofs.Ytadpomclnhemoaa
open Go.RowKit
set_option linter.unusedVariables false

theorem blk_set {w : World} {b : Nat} {cs : Array Value} {t : TypeId} (h : w.heap[b]? = some (.cells cs t (0, 0))) (i : Nat) (u : Value) : (w.setCell ⟨b, i, none⟩ u).heap[b]? = some (.cells (cs.setIfInBounds i u) t (0, 0)) := by
  simp [World.setCell, Array.getElem?_modify, h]

/-- A disk whose three numbers have turned. -/
def Dk.nums (k : Dk) (lim : Nat) (left : Int) (done : Nat) : Dk := { k with lim := lim, left := left, done := done }

theorem DiskAt.turn {w w' : World} {k : Dk} (h : DiskAt w k) (hk : Keeps [k.p] w w') {lim : Nat} {left : Int} {done : Nat} (hp : w'.heap[k.p]? = some (.cells (k.nums lim left done).cells 62 (0, 0)))
    (h1 : lim ≤ k.S.length) (h2 : -1 ≤ left) (h3 : left ≤ 9223372036854775807) : DiskAt w' (k.nums lim left done) := by
  refine ⟨hp, own_keep h.st hk ?_, own_keep h.la hk ?_, own_keep h.wa hk ?_, h.sl, h.len, h.pos, h.big, ?_, h1, h2, h3⟩
  · intro b hb; simp only [Dk.sv, Value.ownBlock, Option.some.injEq] at hb; subst hb; have := h.nps; simp; exact fun e => this e.symm
  · intro b hb; simp only [Dk.lv, Value.ownBlock, Option.some.injEq] at hb; subst hb; have := h.npl; simp; exact fun e => this e.symm
  · intro b hb; simp only [List.mem_singleton]; rintro rfl; exact h.npq hb
  · intro x hx
    obtain ⟨a1, a2, a3⟩ := h.fit x hx
    refine ⟨a1.keep hk ?_, a2, fun b hb => ⟨Nat.lt_of_lt_of_le (a3 b hb).1 hk.size, (a3 b hb).2⟩⟩
    intro b hb
    have := (a3 b hb).2
    simp [Dk.fp] at this
    simp
    exact this.1

/-- How many steps are left behind one. -/
def lessOne (n : Int) : Int := if 0 < n then n - 1 else n

theorem count_any (k : Dk) (w : World) (h : DiskAt w k) (hd : k.done < 4611686018427387904) :
    Calls Try.prog 38 #[.pointer (some ⟨k.p, 0, none⟩)] w fun e w' => e = .returned (.tuple #[]) ∧ DiskAt w' (k.nums k.lim (lessOne k.left) (k.done + 1)) ∧ Keeps [k.p] w w' := by
  have c4 := h.c4
  have c5 := h.c5
  have f4 := h.free 4
  have f5 := h.free 5
  have hlo := h.lo
  have hhi := h.hi
  have HD := Lib.hid h
  clear h
  by_cases hl : 0 < k.left
  · have HW : Hid (DiskAt ((w.setCell ⟨k.p, 5, none⟩ (.int .i64 ((k.done : Int) + 1))).setCell ⟨k.p, 4, none⟩ (.int .i64 (k.left - 1))) (k.nums k.lim (k.left - 1) (k.done + 1))) := by
      refine HD.out.turn (((Keeps.refl _ _).setCell (by simp) _).setCell (by simp) _) ?_ HD.out.lim (by omega) (by omega)
      rw [blk_set (blk_set HD.out.blk 5 _) 4]
      simp [Dk.cells, Dk.nums, Dk.sv, Dk.lv]
    go_enter Try.func38, Try.ntmps38
    go_wp2
    go_end0
    exact ⟨rfl, by rw [lessOne, if_pos hl]; exact HW.out, ((Keeps.refl _ _).setCell (by simp) _).setCell (by simp) _⟩
  · have HW : Hid (DiskAt (w.setCell ⟨k.p, 5, none⟩ (.int .i64 ((k.done : Int) + 1))) (k.nums k.lim k.left (k.done + 1))) := by
      refine HD.out.turn ((Keeps.refl _ _).setCell (by simp) _) ?_ HD.out.lim (by omega) (by omega)
      rw [blk_set HD.out.blk 5 _]
      simp [Dk.cells, Dk.nums, Dk.sv, Dk.lv]
    go_enter Try.func38, Try.ntmps38
    go_wp2
    go_end0
    exact ⟨rfl, by rw [lessOne, if_neg (by omega)]; exact HW.out, (Keeps.refl _ _).setCell (by simp) _⟩

theorem set4 {k : Dk} {w : World} (h : DiskAt w k) (m : Int) (h1 : -1 ≤ m) (h2 : m ≤ 9223372036854775807) : DiskAt (w.setCell ⟨k.p, 4, none⟩ (.int .i64 m)) (k.nums k.lim m k.done) := by
  refine h.turn ((Keeps.refl _ _).setCell (by simp) _) ?_ h.lim h1 h2
  rw [blk_set h.blk 4 _]
  simp [Dk.cells, Dk.nums, Dk.sv, Dk.lv]

theorem set3 {k : Dk} {w : World} (h : DiskAt w k) (m : Nat) (h1 : m ≤ k.S.length) : DiskAt (w.setCell ⟨k.p, 3, none⟩ (.int .i64 (m : Int))) (k.nums m k.left k.done) := by
  refine h.turn ((Keeps.refl _ _).setCell (by simp) _) ?_ h1 h.lo h.hi
  rw [blk_set h.blk 3 _]
  simp [Dk.cells, Dk.nums, Dk.sv, Dk.lv]

theorem arm_any (k : Dk) (n : Int) (w : World) (h : DiskAt w k) (hn : -9223372036854775808 ≤ n ∧ n ≤ 9223372036854775807) :
    Calls Try.prog 19 #[.pointer (some ⟨k.p, 0, none⟩), .int .i64 n] w fun e w' => e = .returned (.int .i64 0) ∧ DiskAt w' (k.nums k.lim (max n (-1)) k.done) ∧ Keeps [k.p] w w' := by
  have c0 := h.c0
  have c4 := h.c4
  have f4 := h.free 4
  have hp := h.pos
  have hb := h.big
  obtain ⟨hn1, hn2⟩ := hn
  have HD := Lib.hid h
  clear h
  have HM : Hid (∀ m, m = max n (-1) → DiskAt (w.setCell ⟨k.p, 4, none⟩ (.int .i64 m)) (k.nums k.lim (max n (-1)) k.done)) := by
    intro m hm
    rw [← hm]
    exact set4 HD.out m (by omega) (by omega)
  go_enter Try.func19, Try.ntmps19
  go_wp2
  refine wp_scope_once 0 rfl ?_
  go_wp2_with (go_at_call 33; refine (missing_not _ _ _ _ _ c0 (by omega) (by omega)).mono ?_; rintro e w' ⟨rfl, rfl⟩)
  all_goals
    simp only [Exit.jump]
    go_ret
    exact ⟨rfl, HM.out _ (by omega), (Keeps.refl _ _).setCell (by simp) _⟩

theorem limit_no (k : Dk) (n : Int) (w : World) (h : DiskAt w k) (hn : n < 0 ∨ (k.S.length : Int) < n) :
    Calls Try.prog 20 #[.pointer (some ⟨k.p, 0, none⟩), .int .i64 n] w fun e w' => e = .returned (.int .i64 4) ∧ w = w' := by
  have c0 := h.c0
  have hp := h.pos
  have hb := h.big
  have HD := Lib.hid h
  clear h
  rcases hn with hn | hn
  · go_enter Try.func20, Try.ntmps20
    go_wp2
    refine wp_scope_once 0 rfl ?_
    go_wp2_with (go_at_call 33; refine (missing_not _ _ _ _ _ c0 (by omega) (by omega)).mono ?_; rintro e w' ⟨rfl, rfl⟩)
    go_step3
    refine ⟨rfl, ?_⟩
    go_wp2
    rw [Exit.noGoto_ret]
    go_ret
    exact ⟨rfl, rfl⟩
  · have hn0 : ¬ n < 0 := by omega
    go_enter Try.func20, Try.ntmps20
    go_wp2
    refine wp_scope_once 0 rfl ?_
    go_wp2_with (first
      | (go_at_call 33; refine (missing_not _ _ _ _ _ c0 (by omega) (by omega)).mono ?_; rintro e w' ⟨rfl, rfl⟩)
      | (go_at_call 26; refine (size_any _ _ _ _ _ c0 (by omega) (by omega)).mono ?_; rintro e w' ⟨rfl, rfl⟩))
    go_step3
    refine ⟨rfl, ?_⟩
    go_wp2
    rw [Exit.noGoto_ret]
    go_ret
    exact ⟨rfl, rfl⟩

theorem limit_yes (k : Dk) (n : Nat) (w : World) (h : DiskAt w k) (hn : n ≤ k.S.length) :
    Calls Try.prog 20 #[.pointer (some ⟨k.p, 0, none⟩), .int .i64 (n : Int)] w fun e w' => e = .returned (.int .i64 0) ∧ DiskAt w' (k.nums n k.left k.done) ∧ Keeps [k.p] w w' := by
  have c0 := h.c0
  have c3 := h.c3
  have f3 := h.free 3
  have hp := h.pos
  have hb := h.big
  have hn0 : ¬ (n : Int) < 0 := by omega
  have hn1 : ¬ (k.S.length : Int) < (n : Int) := by omega
  have HD := Lib.hid (set3 h n hn)
  clear h
  go_enter Try.func20, Try.ntmps20
  go_wp2
  refine wp_scope_once 0 rfl ?_
  go_wp2_with (first
    | (go_at_call 33; refine (missing_not _ _ _ _ _ c0 (by omega) (by omega)).mono ?_; rintro e w' ⟨rfl, rfl⟩)
    | (go_at_call 26; refine (size_any _ _ _ _ _ c0 (by omega) (by omega)).mono ?_; rintro e w' ⟨rfl, rfl⟩))
  simp only [Exit.jump]
  go_ret
  exact ⟨rfl, HD.out, (Keeps.refl _ _).setCell (by simp) _⟩

theorem clone_len (v : Value) (n : Nat) (xs : List UInt8) (w : World) (hn : xs.length = n) (hl : n ≤ 140737488351232) (hv : BytesAt w v xs) :
    Calls Try.prog 35 #[v] w fun e w' => ∃ A c, e = .returned (.slice A n c) ∧ w'.ownsRow w.heap.size 5 1 (.slice A n c) n (xs.map bv) ∧ Below w.heap.size w w' := by
  subst hn
  exact clone_any v xs w hl hv

/-- Part of a row, as bytes. -/
theorem part_at {w : World} {base g c : Nat} {S : List UInt8} (h : w.ownsRow base 5 1 (.slice (some ⟨g, 0, none⟩) S.length c) S.length (S.map bv)) (off n : Nat) (hf : off + n ≤ S.length) (A : Option Addr) (hA : 0 < n → A = some ⟨g, off, none⟩) : BytesAt w (.slice A n (c - off)) ((S.drop off).take n) := by
  have hl : ((S.drop off).take n).length = n := by simp; omega
  obtain ⟨A', c', he, h1, h2, h3⟩ := BytesAt.of_own h
  injection he with _ _ he
  subst he
  refine ⟨A, c - off, by rw [hl], by omega, by omega, fun hp => ?_⟩
  refine ⟨g, off, hA (by omega), fun i u hu => ?_⟩
  have hi : i < n := by
    rcases Nat.lt_or_ge i n with h | h
    · exact h
    · rw [List.getElem?_eq_none (by omega)] at hu; cases hu
  have hu2 : S[off + i]? = some u := by
    rw [List.getElem?_take, if_pos hi, List.getElem?_drop] at hu
    exact hu
  have := h.cells (g := g) rfl (off + i) (bv u) (by simp [hu2])
  rw [add_at, Nat.zero_add] at this
  exact this

theorem read_yes (k : Dk) (off n : Nat) (w : World) (h : DiskAt w k) (hf : off + n ≤ k.S.length) :
    Calls Try.prog 15 #[.pointer (some ⟨k.p, 0, none⟩), .int .i64 (off : Int), .int .i64 (n : Int)] w fun e w' => ∃ A c, e = .returned (.tuple #[.slice A n c, .int .i64 0]) ∧ w'.ownsRow w.heap.size 5 1 (.slice A n c) n (((k.S.drop off).take n).map bv) ∧ Below w.heap.size w w' := by
  have c0 := h.c0
  have hp := h.pos
  have hb := h.big
  have hn0 : ¬ (n : Int) < 0 := by omega
  have hcs : k.S.length ≤ k.cs := by
    rcases h.st.2 with ⟨h', _⟩ | ⟨g, cap, cur, he, _, _, hnc, _⟩
    · cases h'
    · injection he with _ _ he; omega
  have hcm : k.cs ≤ 9223372036854775807 := by
    rcases h.st.2 with ⟨h', _⟩ | ⟨g, cap, cur, he, _, _, _, hm, _⟩
    · cases h'
    · injection he with _ _ he; unfold maxLen at hm; omega
  have HP := fun A hA => Lib.hid (part_at h.st off n hf A hA)
  have HL : Hid (((k.S.drop off).take n).length = n) := by show _ = _; simp; omega
  clear h
  by_cases hc : k.cs = off
  · have hn1 : n = 0 := by omega
    subst hn1
    obtain rfl : off = k.cs := by omega
    clear hc
    go_enter Try.func15, Try.ntmps15
    go_wp2
    refine wp_scope_once 0 rfl ?_
    go_wp2_with (first
      | (go_at_call 33; refine (missing_not _ _ _ _ _ c0 (by omega) (by omega)).mono ?_; rintro e w' ⟨rfl, rfl⟩)
      | (go_at_call 26; refine (size_any _ _ _ _ _ c0 (by omega) (by omega)).mono ?_; rintro e w' ⟨rfl, rfl⟩)
      | (go_at_call 34; refine (within_yes _ _ _ _ (by omega) (by omega) (by omega) (by omega) (by omega) (by omega)).mono ?_; rintro e w' ⟨rfl, rfl⟩)
      )
    refine (clone_len (.slice (some ⟨k.s, 0, none⟩) 0 0) 0 [] w rfl (by omega) ⟨_, 0, rfl, Nat.le_refl _, Nat.zero_le _, fun h => absurd h (by simp)⟩).mono ?_
    rintro e w1 ⟨A1, c1, rfl, ho, hb⟩
    go_wp2
    simp only [Exit.jump]
    go_ret2
    exact ⟨A1, c1, rfl, by simpa using ho, hb⟩
  · have hc1 : off < k.cs := by omega
    go_enter Try.func15, Try.ntmps15
    go_wp2
    refine wp_scope_once 0 rfl ?_
    go_wp2_with (first
      | (go_at_call 33; refine (missing_not _ _ _ _ _ c0 (by omega) (by omega)).mono ?_; rintro e w' ⟨rfl, rfl⟩)
      | (go_at_call 26; refine (size_any _ _ _ _ _ c0 (by omega) (by omega)).mono ?_; rintro e w' ⟨rfl, rfl⟩)
      | (go_at_call 34; refine (within_yes _ _ _ _ (by omega) (by omega) (by omega) (by omega) (by omega) (by omega)).mono ?_; rintro e w' ⟨rfl, rfl⟩)
      )
    refine (clone_len _ n _ w HL.out (by omega) (HP (some ⟨k.s, off, none⟩) (fun _ => rfl)).out).mono ?_
    rintro e w1 ⟨A1, c1, rfl, ho, hb⟩
    go_wp2
    simp only [Exit.jump]
    go_ret2
    exact ⟨A1, c1, rfl, ho, hb⟩

theorem read_no (k : Dk) (a n : Int) (w : World) (h : DiskAt w k) (h0 : 0 ≤ n) (h1 : n ≤ 9223372036854775807) (hf : ¬ (0 ≤ a ∧ a ≤ (k.S.length : Int) - n)) :
    Calls Try.prog 15 #[.pointer (some ⟨k.p, 0, none⟩), .int .i64 a, .int .i64 n] w fun e w' => e = .returned (.tuple #[.slice none 0 0, .int .i64 4]) ∧ w = w' := by
  have c0 := h.c0
  have hp := h.pos
  have hb := h.big
  have hn0 : ¬ n < 0 := by omega
  have HF := Lib.hid hf
  clear h hf
  go_enter Try.func15, Try.ntmps15
  go_wp2
  refine wp_scope_once 0 rfl ?_
  go_wp2_with (first
    | (go_at_call 33; refine (missing_not _ _ _ _ _ c0 (by omega) (by omega)).mono ?_; rintro e w' ⟨rfl, rfl⟩)
    | (go_at_call 26; refine (size_any _ _ _ _ _ c0 (by omega) (by omega)).mono ?_; rintro e w' ⟨rfl, rfl⟩)
    | (go_at_call 34; refine (within_no _ _ _ _ (by omega) (by omega) (by omega) (by omega) HF.out).mono ?_; rintro e w' ⟨rfl, rfl⟩))
  go_step3
  refine ⟨rfl, ?_⟩
  go_wp2
  rw [Exit.noGoto_ret]
  go_ret2
  exact ⟨rfl, rfl⟩

theorem read_neg (k : Dk) (a n : Int) (w : World) (h : DiskAt w k) (h0 : n < 0) :
    Calls Try.prog 15 #[.pointer (some ⟨k.p, 0, none⟩), .int .i64 a, .int .i64 n] w fun e w' => e = .returned (.tuple #[.slice none 0 0, .int .i64 2]) ∧ w = w' := by
  have c0 := h.c0
  have hp := h.pos
  have hb := h.big
  clear h
  go_enter Try.func15, Try.ntmps15
  go_wp2
  refine wp_scope_once 0 rfl ?_
  go_wp2_with (first
    | (go_at_call 33; refine (missing_not _ _ _ _ _ c0 (by omega) (by omega)).mono ?_; rintro e w' ⟨rfl, rfl⟩))
  go_step3
  refine ⟨rfl, ?_⟩
  go_wp2
  rw [Exit.noGoto_ret]
  go_ret2
  exact ⟨rfl, rfl⟩

end Go.Proofs.Ytadpomclnhemoaa
