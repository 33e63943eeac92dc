/- Texts of one proof, laid together: D5 D6 D7. -/
import Derived.Test.YthgpjlmdllihmaaGreatM09
import Derived.StillTailTactics
import Derived.Deep.DeepCutAuto
/- countStep, Arm, Limit, Read: numbers of the struct turned, bytes told. -/
namespace Go.Proofs.YthgpjlmdllihmaaGreat
open Go.RowKit
set_option linter.unusedVariables false
set_option maxRecDepth 100000

theorem blk_set {w : World} {b : Nat} {cs : Array Value} {t : TypeId} (h : w.heap[b]? = some (.cells cs t (0, 0))) (i : Nat) (u : Value) : (w.setCell ⟨b, i, none⟩ u).heap[b]? = some (.cells (cs.setIfInBounds i u) t (0, 0)) := by
  simp [World.setCell, Array.getElem?_modify, h]

/-- A disk whose three numbers have turned. -/
def Dk.nums (k : Dk) (lim : Nat) (left : Int) (done : Nat) : Dk := { k with lim := lim, left := left, done := done }

theorem DiskAt.turn {w w' : World} {k : Dk} (h : DiskAt w k) (hk : Keeps [k.p] w w') {lim : Nat} {left : Int} {done : Nat} (hp : w'.heap[k.p]? = some (.cells (k.nums lim left done).cells 78 (0, 0)))
    (h1 : lim ≤ k.S.length) (h2 : -1 ≤ left) (h3 : left ≤ 9223372036854775807) : DiskAt w' (k.nums lim left done) := by
  refine ⟨hp, own_keep h.st hk ?_, own_keep h.la hk ?_, own_keep h.wa hk ?_, h.sl, h.len, h.pos, h.big, ?_, h1, h2, h3⟩
  · intro b hb; simp only [Dk.sv, Value.ownBlock, Option.some.injEq] at hb; subst hb; have := h.nps; simp; exact fun e => this e.symm
  · intro b hb; simp only [Dk.lv, Value.ownBlock, Option.some.injEq] at hb; subst hb; have := h.npl; simp; exact fun e => this e.symm
  · intro b hb; simp only [List.mem_singleton]; rintro rfl; exact h.npq hb
  · intro x hx
    obtain ⟨a1, a2, a3⟩ := h.fit x hx
    refine ⟨a1.keep hk ?_, a2, fun b hb => ⟨Nat.lt_of_lt_of_le (a3 b hb).1 hk.size, (a3 b hb).2⟩⟩
    intro b hb
    have := (a3 b hb).2
    simp [Dk.fp] at this
    simp
    exact this.1

/-- How many steps are left behind one. -/
def lessOne (n : Int) : Int := if 0 < n then n - 1 else n

theorem count_any (k : Dk) (w : World) (h : DiskAt w k) (hd : k.done < 4611686018427387904) :
    Calls Tryz.prog 80 #[.pointer (some ⟨k.p, 0, none⟩)] w fun e w' => e = .returned (.tuple #[]) ∧ DiskAt w' (k.nums k.lim (lessOne k.left) (k.done + 1)) ∧ Keeps [k.p] w w' := by
  have c4 := h.c4
  have c5 := h.c5
  have f4 := h.free 4
  have f5 := h.free 5
  have hlo := h.lo
  have hhi := h.hi
  have HD := Lib.hid h
  clear h
  by_cases hl : 0 < k.left
  · have HW : Hid (DiskAt ((w.setCell ⟨k.p, 5, none⟩ (.int .i64 ((k.done : Int) + 1))).setCell ⟨k.p, 4, none⟩ (.int .i64 (k.left - 1))) (k.nums k.lim (k.left - 1) (k.done + 1))) := by
      refine HD.out.turn (((Keeps.refl _ _).setCell (by simp) _).setCell (by simp) _) ?_ HD.out.lim (by omega) (by omega)
      rw [blk_set (blk_set HD.out.blk 5 _) 4]
      simp [Dk.cells, Dk.nums, Dk.sv, Dk.lv]
    go_enter Tryz.func80, Tryz.ntmps80
    go_wp2
    go_end0
    exact ⟨rfl, by rw [lessOne, if_pos hl]; exact HW.out, ((Keeps.refl _ _).setCell (by simp) _).setCell (by simp) _⟩
  · have HW : Hid (DiskAt (w.setCell ⟨k.p, 5, none⟩ (.int .i64 ((k.done : Int) + 1))) (k.nums k.lim k.left (k.done + 1))) := by
      refine HD.out.turn ((Keeps.refl _ _).setCell (by simp) _) ?_ HD.out.lim (by omega) (by omega)
      rw [blk_set HD.out.blk 5 _]
      simp [Dk.cells, Dk.nums, Dk.sv, Dk.lv]
    go_enter Tryz.func80, Tryz.ntmps80
    go_wp2
    go_end0
    exact ⟨rfl, by rw [lessOne, if_neg (by omega)]; exact HW.out, (Keeps.refl _ _).setCell (by simp) _⟩

theorem set4 {k : Dk} {w : World} (h : DiskAt w k) (m : Int) (h1 : -1 ≤ m) (h2 : m ≤ 9223372036854775807) : DiskAt (w.setCell ⟨k.p, 4, none⟩ (.int .i64 m)) (k.nums k.lim m k.done) := by
  refine h.turn ((Keeps.refl _ _).setCell (by simp) _) ?_ h.lim h1 h2
  rw [blk_set h.blk 4 _]
  simp [Dk.cells, Dk.nums, Dk.sv, Dk.lv]

theorem set3 {k : Dk} {w : World} (h : DiskAt w k) (m : Nat) (h1 : m ≤ k.S.length) : DiskAt (w.setCell ⟨k.p, 3, none⟩ (.int .i64 (m : Int))) (k.nums m k.left k.done) := by
  refine h.turn ((Keeps.refl _ _).setCell (by simp) _) ?_ h1 h.lo h.hi
  rw [blk_set h.blk 3 _]
  simp [Dk.cells, Dk.nums, Dk.sv, Dk.lv]

theorem arm_any (k : Dk) (n : Int) (w : World) (h : DiskAt w k) (hn : -9223372036854775808 ≤ n ∧ n ≤ 9223372036854775807) :
    Calls Tryz.prog 13 #[.pointer (some ⟨k.p, 0, none⟩), .int .i64 n] w fun e w' => e = .returned (.int .i64 0) ∧ DiskAt w' (k.nums k.lim (max n (-1)) k.done) ∧ Keeps [k.p] w w' := by
  have c0 := h.c0
  have c4 := h.c4
  have f4 := h.free 4
  have hp := h.pos
  have hb := h.big
  obtain ⟨hn1, hn2⟩ := hn
  have HD := Lib.hid h
  clear h
  have HM : Hid (∀ m, m = max n (-1) → DiskAt (w.setCell ⟨k.p, 4, none⟩ (.int .i64 m)) (k.nums k.lim (max n (-1)) k.done)) := by
    intro m hm
    rw [← hm]
    exact set4 HD.out m (by omega) (by omega)
  go_enter Tryz.func13, Tryz.ntmps13
  go_wp2
  refine wp_scope_once 0 rfl ?_
  go_wp2_with (go_at_call 30; refine (missing_not _ _ _ _ _ c0 (by omega) (by omega)).mono ?_; rintro e w' ⟨rfl, rfl⟩)
  all_goals
    simp only [Exit.jump]
    go_ret
    exact ⟨rfl, HM.out _ (by omega), (Keeps.refl _ _).setCell (by simp) _⟩

theorem clone_len (v : Value) (n : Nat) (xs : List UInt8) (w : World) (hn : xs.length = n) (hl : n ≤ 140737488351232) (hv : BytesAt w v xs) :
    Calls Tryz.prog 53 #[v] w fun e w' => ∃ A c, e = .returned (.slice A n c) ∧ w'.ownsRow w.heap.size 5 1 (.slice A n c) n (xs.map bv) ∧ Below w.heap.size w w' := by
  subst hn
  exact clone_any v xs w hl hv

/-- Part of a row, as bytes. -/
theorem part_at {w : World} {base g c : Nat} {S : List UInt8} (h : w.ownsRow base 5 1 (.slice (some ⟨g, 0, none⟩) S.length c) S.length (S.map bv)) (off n : Nat) (hf : off + n ≤ S.length) (A : Option Addr) (hA : 0 < n → A = some ⟨g, off, none⟩) : BytesAt w (.slice A n (c - off)) ((S.drop off).take n) := by
  have hl : ((S.drop off).take n).length = n := by simp; omega
  obtain ⟨A', c', he, h1, h2, h3⟩ := BytesAt.of_own h
  injection he with _ _ he
  subst he
  refine ⟨A, c - off, by rw [hl], by omega, by omega, fun hp => ?_⟩
  refine ⟨g, off, hA (by omega), fun i u hu => ?_⟩
  have hi : i < n := by
    rcases Nat.lt_or_ge i n with h | h
    · exact h
    · rw [List.getElem?_eq_none (by omega)] at hu; cases hu
  have hu2 : S[off + i]? = some u := by
    rw [List.getElem?_take, if_pos hi, List.getElem?_drop] at hu
    exact hu
  have := h.cells (g := g) rfl (off + i) (bv u) (by simp [hu2])
  rw [add_at, Nat.zero_add] at this
  exact this

theorem read_yes (k : Dk) (off n : Nat) (w : World) (h : DiskAt w k) (hf : off + n ≤ k.S.length) :
    Calls Tryz.prog 54 #[.pointer (some ⟨k.p, 0, none⟩), .int .i64 (off : Int), .int .i64 (n : Int)] w fun e w' => ∃ A c, e = .returned (.tuple #[.slice A n c, .int .i64 0]) ∧ w'.ownsRow w.heap.size 5 1 (.slice A n c) n (((k.S.drop off).take n).map bv) ∧ Below w.heap.size w w' := by
  have c0 := h.c0
  have hp := h.pos
  have hb := h.big
  have hn0 : ¬ (n : Int) < 0 := by omega
  have hcs : k.S.length ≤ k.cs := by
    rcases h.st.2 with ⟨h', _⟩ | ⟨g, cap, cur, he, _, _, hnc, _⟩
    · cases h'
    · injection he with _ _ he; omega
  have hcm : k.cs ≤ 9223372036854775807 := by
    rcases h.st.2 with ⟨h', _⟩ | ⟨g, cap, cur, he, _, _, _, hm, _⟩
    · cases h'
    · injection he with _ _ he; unfold maxLen at hm; omega
  have HP := fun A hA => Lib.hid (part_at h.st off n hf A hA)
  have HL : Hid (((k.S.drop off).take n).length = n) := by show _ = _; simp; omega
  clear h
  by_cases hc : k.cs = off
  · have hn1 : n = 0 := by omega
    subst hn1
    obtain rfl : off = k.cs := by omega
    clear hc
    go_enter Tryz.func54, Tryz.ntmps54
    go_wp2
    refine wp_scope_once 0 rfl ?_
    go_wp2_with (first
      | (go_at_call 30; refine (missing_not _ _ _ _ _ c0 (by omega) (by omega)).mono ?_; rintro e w' ⟨rfl, rfl⟩)
      | (go_at_call 21; refine (size_any _ _ _ _ _ c0 (by omega) (by omega)).mono ?_; rintro e w' ⟨rfl, rfl⟩)
      | (go_at_call 70; refine (within_yes _ _ _ _ (by omega) (by omega) (by omega) (by omega) (by omega) (by omega)).mono ?_; rintro e w' ⟨rfl, rfl⟩)
      )
    refine (clone_len (.slice (some ⟨k.s, 0, none⟩) 0 0) 0 [] w rfl (by omega) ⟨_, 0, rfl, Nat.le_refl _, Nat.zero_le _, fun h => absurd h (by simp)⟩).mono ?_
    rintro e w1 ⟨A1, c1, rfl, ho, hb⟩
    go_wp2
    simp only [Exit.jump]
    go_ret2
    exact ⟨A1, c1, rfl, by simpa using ho, hb⟩
  · have hc1 : off < k.cs := by omega
    go_enter Tryz.func54, Tryz.ntmps54
    go_wp2
    refine wp_scope_once 0 rfl ?_
    go_wp2_with (first
      | (go_at_call 30; refine (missing_not _ _ _ _ _ c0 (by omega) (by omega)).mono ?_; rintro e w' ⟨rfl, rfl⟩)
      | (go_at_call 21; refine (size_any _ _ _ _ _ c0 (by omega) (by omega)).mono ?_; rintro e w' ⟨rfl, rfl⟩)
      | (go_at_call 70; refine (within_yes _ _ _ _ (by omega) (by omega) (by omega) (by omega) (by omega) (by omega)).mono ?_; rintro e w' ⟨rfl, rfl⟩)
      )
    refine (clone_len _ n _ w HL.out (by omega) (HP (some ⟨k.s, off, none⟩) (fun _ => rfl)).out).mono ?_
    rintro e w1 ⟨A1, c1, rfl, ho, hb⟩
    go_wp2
    simp only [Exit.jump]
    go_ret2
    exact ⟨A1, c1, rfl, ho, hb⟩

theorem read_no (k : Dk) (a n : Int) (w : World) (h : DiskAt w k) (h0 : 0 ≤ n) (h1 : n ≤ 9223372036854775807) (hf : ¬ (0 ≤ a ∧ a ≤ (k.S.length : Int) - n)) :
    Calls Tryz.prog 54 #[.pointer (some ⟨k.p, 0, none⟩), .int .i64 a, .int .i64 n] w fun e w' => e = .returned (.tuple #[.slice none 0 0, .int .i64 4]) ∧ w = w' := by
  have c0 := h.c0
  have hp := h.pos
  have hb := h.big
  have hn0 : ¬ n < 0 := by omega
  have HF := Lib.hid hf
  clear h hf
  go_enter Tryz.func54, Tryz.ntmps54
  go_wp2
  refine wp_scope_once 0 rfl ?_
  go_wp2_with (first
    | (go_at_call 30; refine (missing_not _ _ _ _ _ c0 (by omega) (by omega)).mono ?_; rintro e w' ⟨rfl, rfl⟩)
    | (go_at_call 21; refine (size_any _ _ _ _ _ c0 (by omega) (by omega)).mono ?_; rintro e w' ⟨rfl, rfl⟩)
    | (go_at_call 70; refine (within_no _ _ _ _ (by omega) (by omega) (by omega) (by omega) HF.out).mono ?_; rintro e w' ⟨rfl, rfl⟩))
  go_step3
  refine ⟨rfl, ?_⟩
  go_wp2
  rw [Exit.noGoto_ret]
  go_ret2
  exact ⟨rfl, rfl⟩

theorem read_neg (k : Dk) (a n : Int) (w : World) (h : DiskAt w k) (h0 : n < 0) :
    Calls Tryz.prog 54 #[.pointer (some ⟨k.p, 0, none⟩), .int .i64 a, .int .i64 n] w fun e w' => e = .returned (.tuple #[.slice none 0 0, .int .i64 2]) ∧ w = w' := by
  have c0 := h.c0
  have hp := h.pos
  have hb := h.big
  clear h
  go_enter Tryz.func54, Tryz.ntmps54
  go_wp2
  refine wp_scope_once 0 rfl ?_
  go_wp2_with (first
    | (go_at_call 30; refine (missing_not _ _ _ _ _ c0 (by omega) (by omega)).mono ?_; rintro e w' ⟨rfl, rfl⟩))
  go_step3
  refine ⟨rfl, ?_⟩
  go_wp2
  rw [Exit.noGoto_ret]
  go_ret2
  exact ⟨rfl, rfl⟩

end Go.Proofs.YthgpjlmdllihmaaGreat
/- stand: a write stands, and waits. -/
namespace Go.Proofs.YthgpjlmdllihmaaGreat
open Go.RowKit
set_option linter.unusedVariables false
set_option maxRecDepth 100000

theorem wr_info : (Tryz.prog.info? 86).map (fun i => (i.zero, i.size, i.bytes)) = some (some (.agg #[.int .i64 0, .slice none 0 0]), 2, 32) := by kernel_rfl

/-- A disk whose bytes that stand have turned. -/
def Dk.stands (k : Dk) (S : List UInt8) : Dk := { k with S := S }

theorem DiskAt.put {w w' : World} {k : Dk} (h : DiskAt w k) {S : List UInt8} (hl : S.length = k.S.length) (ho : w'.ownsRow 0 5 1 (.slice (some ⟨k.s, 0, none⟩) k.S.length k.cs) k.S.length (S.map bv)) (hk : Keeps [k.s] w w') : DiskAt w' (k.stands S) := by
  have hs1 : k.p ∉ [k.s] := by simp; exact h.nps
  have e : (k.stands S).sv = k.sv := by simp [Dk.stands, Dk.sv, hl]
  refine ⟨?_, ?_, own_keep h.la hk ?_, own_keep h.wa hk ?_, h.sl, ?_, ?_, ?_, ?_, ?_, h.lo, h.hi⟩
  · have := (hk.block _ (lt_of_heap h.blk) hs1).trans h.blk
    simp only [Dk.cells, e]
    exact this
  · rw [e, show (k.stands S).S = S from rfl, hl]
    exact ho
  · intro b hb; simp only [Dk.lv, Value.ownBlock, Option.some.injEq] at hb; subst hb; have := h.sl; simp; exact fun e => this e.symm
  · intro b hb; simp only [List.mem_singleton]; rintro rfl; exact h.nsq hb
  · rw [show (k.stands S).S = S from rfl, hl]; exact h.len
  · rw [show (k.stands S).S = S from rfl, hl]; exact h.pos
  · rw [show (k.stands S).S = S from rfl, hl]; exact h.big
  · intro x hx
    obtain ⟨a1, a2, a3⟩ := h.fit x hx
    refine ⟨a1.keep hk ?_, by rw [show (k.stands S).S = S from rfl, hl]; exact a2, fun b hb => ⟨Nat.lt_of_lt_of_le (a3 b hb).1 hk.size, (a3 b hb).2⟩⟩
    intro b hb
    have := (a3 b hb).2
    simp [Dk.fp] at this
    simp
    exact this.2.1
  · rw [show (k.stands S).S = S from rfl, hl]; exact h.lim

/-- A disk with one write more that waits. -/
def Dk.more (k : Dk) (q : Value) (x : Wt) : Dk := { k with q := q, W := k.W ++ [x] }

theorem DiskAt.more {w w' : World} {k : Dk} (h : DiskAt w k) {q : Value} {x : Wt} (hp : w'.heap[k.p]? = some (.cells (k.more q x).cells 78 (0, 0))) (ho : w'.ownsRow 0 86 2 q (k.W.length + 1) (wcells k.W ++ [.int .i64 (x.off : Int), x.v]))
    (hk : Keeps (k.p :: k.q.ownBlock.toList) w w') (hq : q.ownBlock = k.q.ownBlock ∨ ∃ b, q.ownBlock = some b ∧ w.heap.size ≤ b) (hx : BytesAt w x.v x.xs) (hf : x.off + x.xs.length ≤ k.S.length) (hb : ∀ b, x.v.ownBlock = some b → b < w.heap.size ∧ b ∉ k.fp) : DiskAt w' (k.more q x) := by
  have hfp : ∀ b, b < w.heap.size → b ∉ k.fp → b ∉ (k.more q x).fp := by
    intro b hlt hn hm
    simp only [Dk.fp, Dk.more, List.mem_cons, Option.mem_toList] at hn hm
    rcases hm with hm | hm | hm | hm
    · exact hn (.inl hm)
    · exact hn (.inr (.inl hm))
    · exact hn (.inr (.inr (.inl hm)))
    · rcases hq with hq | ⟨b', hq, hlb⟩
      · exact hn (.inr (.inr (.inr (by rw [← hq]; exact hm))))
      · rw [hq] at hm; injection hm with hm; omega
  have hkfp : ∀ b, b ∉ k.fp → b ∉ k.p :: k.q.ownBlock.toList := by
    intro b hn hm
    simp only [Dk.fp, List.mem_cons] at hn hm
    rcases hm with hm | hm
    · exact hn (.inl hm)
    · exact hn (.inr (.inr (.inr hm)))
  refine ⟨hp, own_keep h.st hk ?_, own_keep h.la hk ?_, ?_, h.sl, h.len, h.pos, h.big, ?_, h.lim, h.lo, h.hi⟩
  · intro b hb; simp only [Dk.sv, Value.ownBlock, Option.some.injEq] at hb; subst hb
    simp only [List.mem_cons, Option.mem_toList]
    rintro (e | e)
    · exact h.nps e.symm
    · exact h.nsq e
  · intro b hb; simp only [Dk.lv, Value.ownBlock, Option.some.injEq] at hb; subst hb
    simp only [List.mem_cons, Option.mem_toList]
    rintro (e | e)
    · exact h.npl e.symm
    · exact h.nlq e
  · have e1 : (k.more q x).W.length = k.W.length + 1 := by simp [Dk.more]
    have e2 : wcells (k.more q x).W = wcells k.W ++ [.int .i64 (x.off : Int), x.v] := by simp [Dk.more, wcells]
    rw [e1, e2]
    exact ho
  · intro y hy
    rcases List.mem_append.1 hy with hy | hy
    · obtain ⟨a1, a2, a3⟩ := h.fit y hy
      exact ⟨a1.keep hk (fun b hb => hkfp b (a3 b hb).2), a2, fun b hb => ⟨Nat.lt_of_lt_of_le (a3 b hb).1 hk.size, hfp b (a3 b hb).1 (a3 b hb).2⟩⟩
    · rw [List.mem_singleton.1 hy]
      exact ⟨hx.keep hk (fun b h' => hkfp b (hb b h').2), hf, fun b h' => ⟨Nat.lt_of_lt_of_le (hb b h').1 hk.size, hfp b (hb b h').1 (hb b h').2⟩⟩

theorem news_at {w : World} {u v : Value} {t : TypeId} : ∀ j x, [u, v][j]? = some x → (w.alloc (.cells #[u, v] t)).cell? ((⟨w.heap.size, 0, none⟩ : Addr).add j) = some x := by
  intro j x hj
  rw [add_at, Nat.zero_add, World.cell?_alloc_new]
  simpa using hj

theorem step_append_at {P : Program} {w : World} {ops : Array Oper} {o : Oper} {a : Act} {K : Act → World → Prop} {Q : Exit → Act → World → Prop} {E : Prop} (hgd : o.guard = none) (s x : Operand) (t : TypeId)
    (ho : o.op = .call { callee := .builtin .append, args := #[s, x], argTypes := #[t, t] })
    (base : Nat) (e : TypeId) (i : TypeInfo) (z : Value) (size bytes : Nat) (ht : P.underlying t = some (.slice e)) (hi : P.info? e = some i) (hz : i.zero = some z)
    (hsize : i.size = size) (hby : i.bytes = bytes) (hzs : z.cells.size = size) (hsz : 0 < size)
    (v : Value) (n : Nat) (xs : List Value) (hs : a.eval s = v) (hown : w.ownsRow base e size v n xs)
    (ad : Addr) (m c : Nat) (news : List Value) (hx : a.eval x = .slice (some ad) m c) (hl : news.length = m * size) (hnews : ∀ j u, news[j]? = some u → w.cell? (ad.add j) = some u) (h1 : ∀ u ∈ news, u.oneCell' = true)
    (h63 : n + m ≤ maxLen) (hbytes : (n + m) * bytes ≤ 140737488355328) (hbase : base ≤ w.heap.size)
    (h : ∀ v' w', w'.ownsRow base e size v' (n + m) (xs ++ news) → w.grownBy w' v.ownBlock → (v'.ownBlock = v.ownBlock ∨ v'.ownBlock = some w.heap.size) → K (a.put o.dst v') w') :
    if Region.wanted o (yielded ops a.tmps) = true then Oper.wp P o a w K Q else E := by
  have hw : Region.wanted o (yielded ops a.tmps) = true := by simp [Region.wanted, hgd]
  rw [if_pos hw]
  obtain ⟨v', w', hr, h2, h3, _, h5⟩ := run_append_own_at (P := P) w base t o.type e i z size bytes ht hi hz hsize hby hzs hsz v n xs hown ad m c news hl hnews h1 h63 hbytes hbase
  unfold Oper.wp execOp
  simp only [ho, resolve, invoke, builtin, Sem.run_bind, Sem.run_pure, Result.andThen_ok, List.map_toArray, List.map_cons, List.map_nil, hs, hx, hr]
  exact h v' w' h2 h3 h5

/-- The struct behind an append to what waits. -/
theorem blk_append {w1 w2 : World} {k : Dk} {o : Obj} {q : Value} (hd : DiskAt w1 k) (hq : k.q = q) (hg : (w1.alloc o).drew.grownBy w2 q.ownBlock) : w2.heap[k.p]? = some (.cells k.cells 78 (0, 0)) := by
  have hl := lt_of_heap hd.blk
  have h1 := hg.block k.p (by simp [World.drew]; omega) (fun e => hd.npq (by rw [hq]; exact e.symm))
  exact (h1.trans (Below.heap_alloc w1 o k.p hl)).trans hd.blk

theorem stand_end {w w1 w2 : World} {k : Dk} {off : Nat} {xs : List UInt8} {v : Value} {o1 o2 : Obj} {q : Value} {A2 : Option Addr} {c2 : Nat} (h : DiskAt w k) (hd : DiskAt w1 (k.stands (laid k.S off xs))) (hkw : Keeps [k.s] (w.alloc o1).drew w1) (hq : k.q = q)
    (hg : (w1.alloc o2).drew.grownBy w2 q.ownBlock) (ho : w2.ownsRow 0 86 2 (.slice A2 (k.W.length + 1) c2) (k.W.length + 1) (wcells k.W ++ [.int .i64 (off : Int), v]))
    (hw : (Value.slice A2 (k.W.length + 1) c2).ownBlock = q.ownBlock ∨ (Value.slice A2 (k.W.length + 1) c2).ownBlock = some (w1.alloc o2).drew.heap.size)
    (hv : BytesAt w v xs) (hf : off + xs.length ≤ k.S.length) (hb : ∀ b, v.ownBlock = some b → b < w.heap.size ∧ b ∉ k.fp) :
    DiskAt (w2.setCell ⟨k.p, 2, none⟩ (.slice A2 (k.W.length + 1) c2)) ((k.stands (laid k.S off xs)).more (.slice A2 (k.W.length + 1) c2) ⟨off, v, xs⟩) ∧
      ((Value.slice A2 (k.W.length + 1) c2).ownBlock = k.q.ownBlock ∨ ∃ b, (Value.slice A2 (k.W.length + 1) c2).ownBlock = some b ∧ w.heap.size ≤ b) ∧ Keeps k.fp w (w2.setCell ⟨k.p, 2, none⟩ (.slice A2 (k.W.length + 1) c2)) := by
  have hbl := blk_append hd hq hg
  have hk1 : Keeps k.fp w w1 := ((((Keeps.refl [k.s] w).alloc o1).drew).trans' hkw).mono (by simp [Dk.fp])
  have hk2 : Keeps (k.p :: k.q.ownBlock.toList) w1 (w2.setCell ⟨k.p, 2, none⟩ (.slice A2 (k.W.length + 1) c2)) := by
    refine Keeps.setCell ?_ (by simp) _
    refine ((Keeps.refl _ w1).alloc o2).drew.trans (Keeps.of_grown (bs := k.q.ownBlock.toList) hg (fun x hx => .inl ?_)) (fun x hx => .inl (by simp only [List.mem_cons]; exact .inr hx))
    rw [hq]
    simpa using hx
  have hsz := hk1.size
  have hsz2 : (w1.alloc o2).drew.heap.size = w1.heap.size + 1 := by simp [World.drew]
  have hfp : ∀ b, b ∉ k.fp → b ∉ (k.stands (laid k.S off xs)).fp := fun b hn => hn
  have hnew : (Value.slice A2 (k.W.length + 1) c2).ownBlock = k.q.ownBlock ∨ ∃ b, (Value.slice A2 (k.W.length + 1) c2).ownBlock = some b ∧ w1.heap.size ≤ b := by
    rcases hw with hw | hw
    · exact .inl (by rw [hq]; exact hw)
    · exact .inr ⟨_, hw, by omega⟩
  refine ⟨hd.more ?_ ?_ hk2 hnew (hv.keep ((((Keeps.refl [k.s] w).alloc o1).drew).trans' hkw) ?_) ?_ ?_, ?_, hk1.trans hk2 ?_⟩
  · rw [show ((k.stands (laid k.S off xs)).p) = k.p from rfl] at hbl ⊢
    rw [blk_set hbl 2]
    simp [Dk.cells, Dk.more, Dk.stands, Dk.sv, Dk.lv]
  · refine own_keep ho ((Keeps.refl [k.p] _).setCell (by simp) _) (fun b hb' => ?_)
    obtain ⟨cur, hc⟩ := own_heap ho hb'
    have hbl' : w2.heap[k.p]? = _ := hbl
    have := ne_of_types hbl' hc (by decide)
    simp
    exact fun e => this e.symm
  · intro b hb'
    have := (hb b hb').2
    simp [Dk.fp] at this
    simp
    exact this.2.1
  · rw [show (k.stands (laid k.S off xs)).S = laid k.S off xs from rfl, length_laid hf]
    exact hf
  · exact fun b h' => ⟨Nat.lt_of_lt_of_le (hb b h').1 hsz, (hb b h').2⟩
  · rcases hnew with h' | ⟨b, h1, h2⟩
    · exact .inl h'
    · exact .inr ⟨b, h1, by omega⟩
  · intro x hx
    simp only [List.mem_cons] at hx
    left
    rcases hx with hx | hx
    · simp [Dk.fp, hx]
    · simp only [Dk.fp, List.mem_cons]
      exact .inr (.inr (.inr hx))

set_option maxHeartbeats 400000 in
theorem stand_try (k : Dk) (off : Nat) (B : Option Addr) (n d : Nat) (xs : List UInt8) (w : World) (h : DiskAt w k) (hn : xs.length = n) (hv : BytesAt w (.slice B n d) xs) (hf : off + n ≤ k.S.length) (hb : ∀ b, (Value.slice B n d).ownBlock = some b → b < w.heap.size ∧ b ∉ k.fp) (hW : k.W.length ≤ 1000000) :
    Calls Tryz.prog 79 #[.pointer (some ⟨k.p, 0, none⟩), .agg #[.int .i64 (off : Int), .slice B n d]] w fun e w' => ∃ q, e = .returned (.tuple #[]) ∧ DiskAt w' ((k.stands (laid k.S off xs)).more q ⟨off, .slice B n d, xs⟩) ∧ (q.ownBlock = k.q.ownBlock ∨ ∃ b, q.ownBlock = some b ∧ w.heap.size ≤ b) ∧ Keeps k.fp w w' := by
  have c0 := h.c0
  have hlt := lt_of_heap h.blk
  have HD := Lib.hid h
  have HV := Lib.hid hv
  have HB := Lib.hid hb
  have HN := Lib.hid hn
  obtain ⟨i0, hi, hz0, hz1, hz2⟩ := info_parts wr_info
  obtain ⟨Aq, cq, hqv⟩ := own_slice h.wa
  have HQ := Lib.hid hqv
  clear h hv hb hqv
  go_enter Tryz.func79, Tryz.ntmps79
  go_wp2
  refine region_tail 5 (by kernel_rfl) (by kernel_rfl) ?_
  simp only [List.take_succ_cons, List.take_zero, List.drop_succ_cons, List.drop_zero]
  repeat still_step
  refine wpStill_nil ?_
  go_wp2_with (go_at_call 52; refine (put_any k.s k.cs k.S 0 off _ xs _ (HD.out.grow (((Keeps.refl [] w)).alloc _).drew).st (by omega) (HV.out.grow (((Keeps.refl [] w)).alloc _).drew)).mono ?_; rintro e w1 ⟨rfl, ho, hk⟩)
  have hs0 : k.s < w.heap.size := (HD.out.st.lt _ rfl).2
  have hbx : w1.heap[w.heap.size]? = some (.cells #[.int .i64 (off : Int), .slice B n d] 86 (0, 0)) := (hk.block _ (by simp [World.drew]) (by simp; omega)).trans (heap_alloc_new w _)
  have hd1 := (HD.out.grow (((Keeps.refl [] w)).alloc (.cells #[.int .i64 (off : Int), .slice B n d] 86)).drew).put (length_laid (by have := HN.out; omega)) ho hk
  have c2 := hd1.c2
  have f2 := hd1.free 2
  have hp1 := lt_of_heap hd1.blk
  rw [show (k.stands (laid k.S off xs)).q = k.q from rfl, HQ.out, show (k.stands (laid k.S off xs)).p = k.p from rfl] at c2
  rw [show (k.stands (laid k.S off xs)).p = k.p from rfl] at f2 hp1
  have b0 := cell_of_blk hbx 0
  have b1 := cell_of_blk hbx 1
  simp at b0 b1
  have hown := (hd1.wa.drew.alloc (.cells #[.int .i64 (off : Int), .slice B n d] 86))
  rw [show (k.stands (laid k.S off xs)).q = k.q from rfl, HQ.out, show (k.stands (laid k.S off xs)).W = k.W from rfl] at hown
  have HO := Lib.hid hown
  have HK := Lib.hid hk
  have HD1 := Lib.hid hd1
  have HX := Lib.hid hbx
  clear hown hk hd1 hbx ho c0
  go_region_law (refine step_append_at rfl (.tmp 14) (.tmp 16) _ rfl 0 86 i0 _ 2 32 Tryz.underlying76 hi hz0 hz1 hz2 rfl (by decide) (.slice Aq k.W.length cq) k.W.length (wcells k.W) rfl HO.out ⟨w1.heap.size, 0, none⟩ 1 1 [.int .i64 (off : Int), .slice B n d] rfl rfl news_at (by simp [Value.oneCell']) (by unfold maxLen; omega) (by omega) (Nat.zero_le _) ?_; intro v' w2 ho2 hg2 hw2; obtain ⟨A2, c2, rfl⟩ := own_slice ho2; have hp2 := blk_append HD1.out HQ.out hg2; have e2 := cell_of_blk hp2 2; have g2 := free_of_blk hp2 2; rw [show (k.stands (laid k.S off xs)).p = k.p from rfl] at e2 g2; simp only [Dk.cells] at e2; have HO2 := Lib.hid ho2; have HG2 := Lib.hid hg2; have HW2 := Lib.hid hw2; clear ho2 hg2 hw2 hp2)
  all_goals
    go_end0
    have hend := stand_end HD.out HD1.out HK.out HQ.out HG2.out HO2.out HW2.out HV.out (by have := HN.out; omega) HB.out
    exact ⟨_, rfl, hend.1, hend.2.1, hend.2.2⟩

end Go.Proofs.YthgpjlmdllihmaaGreat
/- Write: what it refuses; what stands, and waits, behind it. -/
namespace Go.Proofs.YthgpjlmdllihmaaGreat
open Go.RowKit
set_option linter.unusedVariables false
set_option maxRecDepth 100000

/-- What a disk is, memory left aside. -/
structure Dat where
  S : List UInt8
  L : List UInt8
  W : List (Nat × List UInt8)
  lim : Nat
  left : Int
  done : Nat

def Dk.dat (k : Dk) : Dat := ⟨k.S, k.L, k.W.map fun x => (x.off, x.xs), k.lim, k.left, k.done⟩
def Dat.write (d : Dat) (off : Nat) (xs : List UInt8) : Dat := ⟨laid d.S off xs, d.L, d.W ++ [(off, xs)], d.lim, lessOne d.left, d.done + 1⟩

/-- A call of a disk went well: the same pointer, its own blocks or new ones, nothing else turned. -/
structure Goes (w : World) (k : Dk) (w' : World) (k' : Dk) : Prop where
  disk : DiskAt w' k'
  p : k'.p = k.p
  fp : ∀ b ∈ k'.fp, b ∈ k.fp ∨ w.heap.size ≤ b
  all : ∀ b ∈ k'.all, b ∈ k.all ∨ w.heap.size ≤ b
  keeps : Keeps k.fp w w'

theorem fresh_not_fp {w : World} {k : Dk} (h : DiskAt w k) {b : Nat} (hb : w.heap.size ≤ b) : b ∉ k.fp := fun hm => by have := h.lt b (fp_sub hm); omega

theorem write_end {w w1 w2 w3 : World} {k : Dk} {off : Nat} {v q : Value} {xs : List UInt8} (h : DiskAt w k) (h1 : Below w.heap.size w w1) (hv : ∀ b, v.ownBlock = some b → w.heap.size ≤ b)
    (hq : q.ownBlock = k.q.ownBlock ∨ ∃ b, q.ownBlock = some b ∧ w1.heap.size ≤ b) (hk2 : Keeps k.fp w1 w2)
    (h3 : DiskAt w3 (((k.stands (laid k.S off xs)).more q ⟨off, v, xs⟩).nums k.lim (lessOne k.left) (k.done + 1))) (hk3 : Keeps [k.p] w2 w3) :
    Goes w k w3 (((k.stands (laid k.S off xs)).more q ⟨off, v, xs⟩).nums k.lim (lessOne k.left) (k.done + 1)) := by
  have hsz := h1.size
  have hfp : ∀ b ∈ (((k.stands (laid k.S off xs)).more q ⟨off, v, xs⟩).nums k.lim (lessOne k.left) (k.done + 1)).fp, b ∈ k.fp ∨ w.heap.size ≤ b := by
    intro b hb
    simp only [Dk.fp, Dk.more, Dk.stands, Dk.nums, List.mem_cons, Option.mem_toList] at hb ⊢
    rcases hb with hb | hb | hb | hb
    · exact .inl (.inl hb)
    · exact .inl (.inr (.inl hb))
    · exact .inl (.inr (.inr (.inl hb)))
    · rcases hq with hq | ⟨b', hq, hl⟩
      · exact .inl (.inr (.inr (.inr (by rw [← hq]; exact hb))))
      · rw [hq] at hb; injection hb with hb; right; omega
  refine ⟨h3, rfl, hfp, ?_, ?_⟩
  · intro b hb
    rcases List.mem_append.1 hb with hb | hb
    · rcases hfp b hb with h' | h'
      · exact .inl (fp_sub h')
      · exact .inr h'
    · simp only [Dk.more, Dk.stands, Dk.nums, List.filterMap_append, List.mem_append] at hb
      rcases hb with hb | hb
      · exact .inl (List.mem_append_right _ hb)
      · right
        obtain ⟨x, hx, hb⟩ := List.mem_filterMap.1 hb
        rw [List.mem_singleton.1 hx] at hb
        exact hv b hb
  · refine ((Keeps.of_below (bs := k.fp) h1).trans' hk2).trans hk3 ?_
    simp [Dk.fp]

set_option maxHeartbeats 400000 in
theorem write_yes_some (k : Dk) (off : Nat) (B : Option Addr) (n d : Nat) (xs : List UInt8) (w : World) (h : DiskAt w k) (hn : xs.length = n) (hv : BytesAt w (.slice B n d) xs) (hf : off + n ≤ k.S.length) (hn0 : (0 : Int) < (n : Int)) (hf2 : off + n ≤ k.lim) (hl : k.left ≠ 0) (hW : k.W.length ≤ 1000000) (hd : k.done < 4611686018427387904) :
    Calls Tryz.prog 62 #[.pointer (some ⟨k.p, 0, none⟩), .int .i64 (off : Int), .slice B n d] w fun e w' => e = .returned (.int .i64 0) ∧ ∃ k', Goes w k w' k' ∧ k'.dat = k.dat.write off xs ∧ k'.W.length = k.W.length + 1 := by
  have c0 := h.c0
  have c3 := h.c3
  have c4 := h.c4
  have hp := h.pos
  have hb := h.big
  have hlim := h.lim
  have hl0 : (k.left == 0) = false := by simpa using hl
  have HD := Lib.hid h
  have HV := Lib.hid hv
  have HN := Lib.hid hn
  clear h hv hn hl
  go_enter Tryz.func62, Tryz.ntmps62
  go_wp2
  refine wp_scope_once 0 rfl ?_
  go_wp2_with (first
    | (go_at_call 30; refine (missing_not _ _ _ _ _ c0 (by omega) (by omega)).mono ?_; rintro e w' ⟨rfl, rfl⟩)
    | (go_at_call 21; refine (size_any _ _ _ _ _ c0 (by omega) (by omega)).mono ?_; rintro e w' ⟨rfl, rfl⟩)
    | (go_at_call 70; refine (within_yes _ _ _ _ (by omega) (by omega) (by omega) (by omega) (by omega) (by omega)).mono ?_; rintro e w' ⟨rfl, rfl⟩)
    | (go_at_call 53; refine (clone_len _ n xs _ HN.out (by omega) HV.out).mono ?_; rintro e w1 ⟨A1, c1, rfl, ho, hb1⟩; have HO := Lib.hid ho; have HB1 := Lib.hid hb1; clear ho hb1))
  have hst := Lib.hid (stand_try k off A1 n c1 xs w1 (HD.out.grow (Keeps.of_below HB1.out)) HN.out (by have := HO.out; have h2 := HN.out; subst h2; exact BytesAt.of_own this) hf (fun b hb => ⟨(HO.out.lt b hb).2, fresh_not_fp HD.out (HO.out.lt b hb).1⟩) hW)
  refine hst.out.mono ?_
  rintro e w2 ⟨q, rfl, hd2, hq2, hk2⟩
  have HD2 := Lib.hid hd2
  have HQ2 := Lib.hid hq2
  have HK2 := Lib.hid hk2
  clear hd2 hq2 hk2 hst
  go_wp2_with fail
  refine (count_any _ w2 HD2.out hd).mono ?_
  rintro e w3 ⟨rfl, hd3, hk3⟩
  have HE := Lib.hid (write_end HD.out HB1.out (fun b hb => (HO.out.lt b hb).1) HQ2.out HK2.out hd3 hk3)
  clear hd3 hk3
  go_wp2
  simp only [Exit.jump]
  go_ret
  exact ⟨rfl, _, HE.out, by simp [Dk.dat, Dat.write, Dk.nums, Dk.more, Dk.stands], by simp [Dk.nums, Dk.more, Dk.stands]⟩

set_option maxHeartbeats 400000 in
theorem write_yes_none (k : Dk) (off : Nat) (B : Option Addr) (n d : Nat) (xs : List UInt8) (w : World) (h : DiskAt w k) (hn : xs.length = n) (hv : BytesAt w (.slice B n d) xs) (hf : off + n ≤ k.S.length) (hn0 : ¬ (0 : Int) < (n : Int)) (hl : k.left ≠ 0) (hW : k.W.length ≤ 1000000) (hd : k.done < 4611686018427387904) :
    Calls Tryz.prog 62 #[.pointer (some ⟨k.p, 0, none⟩), .int .i64 (off : Int), .slice B n d] w fun e w' => e = .returned (.int .i64 0) ∧ ∃ k', Goes w k w' k' ∧ k'.dat = k.dat.write off xs ∧ k'.W.length = k.W.length + 1 := by
  have c0 := h.c0
  have c3 := h.c3
  have c4 := h.c4
  have hp := h.pos
  have hb := h.big
  have hlim := h.lim
  have hl0 : (k.left == 0) = false := by simpa using hl
  have HD := Lib.hid h
  have HV := Lib.hid hv
  have HN := Lib.hid hn
  clear h hv hn hl
  go_enter Tryz.func62, Tryz.ntmps62
  go_wp2
  refine wp_scope_once 0 rfl ?_
  go_wp2_with (first
    | (go_at_call 30; refine (missing_not _ _ _ _ _ c0 (by omega) (by omega)).mono ?_; rintro e w' ⟨rfl, rfl⟩)
    | (go_at_call 21; refine (size_any _ _ _ _ _ c0 (by omega) (by omega)).mono ?_; rintro e w' ⟨rfl, rfl⟩)
    | (go_at_call 70; refine (within_yes _ _ _ _ (by omega) (by omega) (by omega) (by omega) (by omega) (by omega)).mono ?_; rintro e w' ⟨rfl, rfl⟩)
    | (go_at_call 53; refine (clone_len _ n xs _ HN.out (by omega) HV.out).mono ?_; rintro e w1 ⟨A1, c1, rfl, ho, hb1⟩; have HO := Lib.hid ho; have HB1 := Lib.hid hb1; clear ho hb1))
  have hst := Lib.hid (stand_try k off A1 n c1 xs w1 (HD.out.grow (Keeps.of_below HB1.out)) HN.out (by have := HO.out; have h2 := HN.out; subst h2; exact BytesAt.of_own this) hf (fun b hb => ⟨(HO.out.lt b hb).2, fresh_not_fp HD.out (HO.out.lt b hb).1⟩) hW)
  refine hst.out.mono ?_
  rintro e w2 ⟨q, rfl, hd2, hq2, hk2⟩
  have HD2 := Lib.hid hd2
  have HQ2 := Lib.hid hq2
  have HK2 := Lib.hid hk2
  clear hd2 hq2 hk2 hst
  go_wp2_with fail
  refine (count_any _ w2 HD2.out hd).mono ?_
  rintro e w3 ⟨rfl, hd3, hk3⟩
  have HE := Lib.hid (write_end HD.out HB1.out (fun b hb => (HO.out.lt b hb).1) HQ2.out HK2.out hd3 hk3)
  clear hd3 hk3
  go_wp2
  simp only [Exit.jump]
  go_ret
  exact ⟨rfl, _, HE.out, by simp [Dk.dat, Dat.write, Dk.nums, Dk.more, Dk.stands], by simp [Dk.nums, Dk.more, Dk.stands]⟩

theorem write_yes (k : Dk) (off : Nat) (B : Option Addr) (n d : Nat) (xs : List UInt8) (w : World) (h : DiskAt w k) (hn : xs.length = n) (hv : BytesAt w (.slice B n d) xs) (hf : off + n ≤ k.S.length) (hf2 : n = 0 ∨ off + n ≤ k.lim) (hl : k.left ≠ 0) (hW : k.W.length ≤ 1000000) (hd : k.done < 4611686018427387904) :
    Calls Tryz.prog 62 #[.pointer (some ⟨k.p, 0, none⟩), .int .i64 (off : Int), .slice B n d] w fun e w' => e = .returned (.int .i64 0) ∧ ∃ k', Goes w k w' k' ∧ k'.dat = k.dat.write off xs ∧ k'.W.length = k.W.length + 1 := by
  rcases Nat.eq_zero_or_pos n with hz | hz
  · exact write_yes_none k off B n d xs w h hn hv hf (by omega) hl hW hd
  · exact write_yes_some k off B n d xs w h hn hv hf (by omega) (by omega) hl hW hd

theorem write_range (k : Dk) (a : Int) (B : Option Addr) (n d : Nat) (w : World) (h : DiskAt w k) (hn : n ≤ 9223372036854775807) (hf : ¬ (0 ≤ a ∧ a ≤ (k.S.length : Int) - (n : Int))) :
    Calls Tryz.prog 62 #[.pointer (some ⟨k.p, 0, none⟩), .int .i64 a, .slice B n d] w fun e w' => e = .returned (.int .i64 4) ∧ w = w' := by
  have HF := Lib.hid hf
  clear hf
  have c0 := h.c0
  have c3 := h.c3
  have c4 := h.c4
  have hp := h.pos
  have hb := h.big
  have hlim := h.lim
  clear h
  go_enter Tryz.func62, Tryz.ntmps62
  go_wp2
  refine wp_scope_once 0 rfl ?_
  go_wp2_with (first
    | (go_at_call 30; refine (missing_not _ _ _ _ _ c0 (by omega) (by omega)).mono ?_; rintro e w' ⟨rfl, rfl⟩)
    | (go_at_call 21; refine (size_any _ _ _ _ _ c0 (by omega) (by omega)).mono ?_; rintro e w' ⟨rfl, rfl⟩)
    | (go_at_call 70; refine (within_no _ _ _ _ (by omega) (by omega) (by omega) (by omega) HF.out).mono ?_; rintro e w' ⟨rfl, rfl⟩))
  go_step3
  refine ⟨rfl, ?_⟩
  go_wp2
  rw [Exit.noGoto_ret]
  go_ret
  exact ⟨rfl, rfl⟩

theorem write_full (k : Dk) (off : Nat) (B : Option Addr) (n d : Nat) (w : World) (h : DiskAt w k) (hf : off + n ≤ k.S.length) (hn0 : (0 : Int) < (n : Int)) (hf2 : ¬ off + n ≤ k.lim) :
    Calls Tryz.prog 62 #[.pointer (some ⟨k.p, 0, none⟩), .int .i64 (off : Int), .slice B n d] w fun e w' => e = .returned (.int .i64 110) ∧ w = w' := by
  have c0 := h.c0
  have c3 := h.c3
  have c4 := h.c4
  have hp := h.pos
  have hb := h.big
  have hlim := h.lim
  clear h
  go_enter Tryz.func62, Tryz.ntmps62
  go_wp2
  refine wp_scope_once 0 rfl ?_
  go_wp2_with (first
    | (go_at_call 30; refine (missing_not _ _ _ _ _ c0 (by omega) (by omega)).mono ?_; rintro e w' ⟨rfl, rfl⟩)
    | (go_at_call 21; refine (size_any _ _ _ _ _ c0 (by omega) (by omega)).mono ?_; rintro e w' ⟨rfl, rfl⟩)
    )
  refine (within_yes _ _ _ _ (by omega) (by omega) (by omega) (by omega) (by omega) (by omega)).mono ?_
  rintro e w' ⟨rfl, rfl⟩
  go_wp2_with fail
  refine (within_no _ _ _ _ (by omega) (by omega) (by omega) (by omega) (by omega)).mono ?_
  rintro e w' ⟨rfl, rfl⟩
  go_wp2
  go_step3
  refine ⟨rfl, ?_⟩
  go_wp2
  rw [Exit.noGoto_ret]
  go_ret
  exact ⟨rfl, rfl⟩

theorem write_stop_some (k : Dk) (off : Nat) (B : Option Addr) (n d : Nat) (w : World) (h : DiskAt w k) (hf : off + n ≤ k.S.length) (hn0 : (0 : Int) < (n : Int)) (hf2 : off + n ≤ k.lim) (hl : k.left = 0) :
    Calls Tryz.prog 62 #[.pointer (some ⟨k.p, 0, none⟩), .int .i64 (off : Int), .slice B n d] w fun e w' => e = .returned (.int .i64 111) ∧ w = w' := by
  have hl0 : (k.left == 0) = true := by simpa using hl
  clear hl
  have c0 := h.c0
  have c3 := h.c3
  have c4 := h.c4
  have hp := h.pos
  have hb := h.big
  have hlim := h.lim
  clear h
  go_enter Tryz.func62, Tryz.ntmps62
  go_wp2
  refine wp_scope_once 0 rfl ?_
  go_wp2_with (first
    | (go_at_call 30; refine (missing_not _ _ _ _ _ c0 (by omega) (by omega)).mono ?_; rintro e w' ⟨rfl, rfl⟩)
    | (go_at_call 21; refine (size_any _ _ _ _ _ c0 (by omega) (by omega)).mono ?_; rintro e w' ⟨rfl, rfl⟩)
    | (go_at_call 70; refine (within_yes _ _ _ _ (by omega) (by omega) (by omega) (by omega) (by omega) (by omega)).mono ?_; rintro e w' ⟨rfl, rfl⟩))
  go_step3
  refine ⟨rfl, ?_⟩
  go_wp2
  rw [Exit.noGoto_ret]
  go_ret
  exact ⟨rfl, rfl⟩

theorem write_stop_none (k : Dk) (off : Nat) (B : Option Addr) (n d : Nat) (w : World) (h : DiskAt w k) (hf : off + n ≤ k.S.length) (hn0 : ¬ (0 : Int) < (n : Int)) (hl : k.left = 0) :
    Calls Tryz.prog 62 #[.pointer (some ⟨k.p, 0, none⟩), .int .i64 (off : Int), .slice B n d] w fun e w' => e = .returned (.int .i64 111) ∧ w = w' := by
  have hl0 : (k.left == 0) = true := by simpa using hl
  clear hl
  have c0 := h.c0
  have c3 := h.c3
  have c4 := h.c4
  have hp := h.pos
  have hb := h.big
  have hlim := h.lim
  clear h
  go_enter Tryz.func62, Tryz.ntmps62
  go_wp2
  refine wp_scope_once 0 rfl ?_
  go_wp2_with (first
    | (go_at_call 30; refine (missing_not _ _ _ _ _ c0 (by omega) (by omega)).mono ?_; rintro e w' ⟨rfl, rfl⟩)
    | (go_at_call 21; refine (size_any _ _ _ _ _ c0 (by omega) (by omega)).mono ?_; rintro e w' ⟨rfl, rfl⟩)
    | (go_at_call 70; refine (within_yes _ _ _ _ (by omega) (by omega) (by omega) (by omega) (by omega) (by omega)).mono ?_; rintro e w' ⟨rfl, rfl⟩))
  go_step3
  refine ⟨rfl, ?_⟩
  go_wp2
  rw [Exit.noGoto_ret]
  go_ret
  exact ⟨rfl, rfl⟩

theorem write_stop (k : Dk) (off : Nat) (B : Option Addr) (n d : Nat) (w : World) (h : DiskAt w k) (hf : off + n ≤ k.S.length) (hf2 : n = 0 ∨ off + n ≤ k.lim) (hl : k.left = 0) :
    Calls Tryz.prog 62 #[.pointer (some ⟨k.p, 0, none⟩), .int .i64 (off : Int), .slice B n d] w fun e w' => e = .returned (.int .i64 111) ∧ w = w' := by
  rcases Nat.eq_zero_or_pos n with hz | hz
  · exact write_stop_none k off B n d w h hf (by omega) hl
  · exact write_stop_some k off B n d w h hf (by omega) (by omega) hl

end Go.Proofs.YthgpjlmdllihmaaGreat
