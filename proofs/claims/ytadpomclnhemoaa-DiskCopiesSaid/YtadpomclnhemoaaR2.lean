/- The document's own disk: how it lies in memory; New, step, Arm, Pick, Now. -/
import Derived.Test.YtadpomclnhemoaaR1
namespace Go.Proofs.Ytadpomclnhemoaa
open Go.RowKit
set_option linter.unusedVariables false

structure Rf where
  AL : Option Addr
  cL : Nat
  AW : Option Addr
  cW : Nat
  L : List UInt8
  W : List Wt
  armed : Int
  lim : Nat
  done : Nat

def Rf.lv (r : Rf) : Value := .slice r.AL r.L.length r.cL
def Rf.wv (r : Rf) : Value := .slice r.AW r.W.length r.cW
def Rf.v (r : Rf) : Value := .agg #[.slice r.AL r.L.length r.cL, .slice r.AW r.W.length r.cW, .int .i64 r.armed, .int .i64 (r.lim : Int), .int .i64 (r.done : Int)]
def Rf.all (r : Rf) : List Nat := r.lv.ownBlock.toList ++ (r.wv.ownBlock.toList ++ r.W.filterMap fun x => x.v.ownBlock)

structure RefAt (w : World) (r : Rf) : Prop where
  la : BytesAt w r.lv r.L
  lt : ∀ b ∈ r.all, b < w.heap.size
  wa : w.ownsRow 0 88 2 r.wv r.W.length (wcells r.W)
  pos : 0 < r.L.length
  big : r.L.length ≤ 262144
  fit : ∀ x ∈ r.W, BytesAt w x.v x.xs ∧ x.off + x.xs.length ≤ r.L.length
  lim : r.lim ≤ r.L.length
  lo : -1 ≤ r.armed
  hi : r.armed ≤ 9223372036854775807

theorem RefAt.keep {w w' : World} {r : Rf} {bs : List Nat} (h : RefAt w r) (hk : Keeps bs w w') (hd : ∀ b ∈ r.all, b ∉ bs) : RefAt w' r := by
  refine ⟨h.la.keep hk (fun b hb => hd b ?_), fun b hb => Nat.lt_of_lt_of_le (h.lt b hb) hk.size, own_keep h.wa hk (fun b hb => hd b ?_), h.pos, h.big, fun x hx => ⟨(h.fit x hx).1.keep hk (fun b hb => hd b ?_), (h.fit x hx).2⟩, h.lim, h.lo, h.hi⟩
  · simp [Rf.all, hb]
  · simp [Rf.all, hb]
  · simp only [Rf.all, List.mem_append]
    exact .inr (.inr (List.mem_filterMap.2 ⟨x, hx, hb⟩))

theorem RefAt.grow {w w' : World} {r : Rf} (h : RefAt w r) (hk : Keeps [] w w') : RefAt w' r := h.keep hk (by simp)

/-- Numbers turned. -/
def Rf.nums (r : Rf) (armed : Int) (lim done : Nat) : Rf := { r with armed := armed, lim := lim, done := done }
theorem RefAt.nums {w : World} {r : Rf} (h : RefAt w r) {armed : Int} {lim done : Nat} (h1 : lim ≤ r.L.length) (h2 : -1 ≤ armed) (h3 : armed ≤ 9223372036854775807) : RefAt w (r.nums armed lim done) :=
  ⟨h.la, h.lt, h.wa, h.pos, h.big, h.fit, h1, h2, h3⟩

theorem refnew_no (size : Int) (w : World) (h : size < 1 ∨ 262144 < size) : Calls Try.prog 12 #[.int .i64 size] w fun e w' => e = .returned (.tuple #[.agg #[.slice none 0 0, .slice none 0 0, .int .i64 0, .int .i64 0, .int .i64 0], .int .i64 2]) ∧ Below w.heap.size w w' := by
  rcases h with h | h
  · go_enter Try.func12, Try.ntmps12
    go_wp2
    exact bodyPost_ret (v := .tuple #[.agg #[.slice none 0 0, .slice none 0 0, .int .i64 0, .int .i64 0, .int .i64 0], .int .i64 2]) (by simp [results, Try.results12, go_sem]) rfl ⟨rfl, (Below.refl _ _).alloc (Nat.le_refl _) _⟩
  · have h' : ¬ size < 1 := by omega
    go_enter Try.func12, Try.ntmps12
    go_wp2
    exact bodyPost_ret (v := .tuple #[.agg #[.slice none 0 0, .slice none 0 0, .int .i64 0, .int .i64 0, .int .i64 0], .int .i64 2]) (by simp [results, Try.results12, go_sem]) rfl ⟨rfl, (Below.refl _ _).alloc (Nat.le_refl _) _⟩

/-- Five cells of one block, set anew. -/
theorem Keeps.five {w : World} (g : Nat) (a b c d e : Value) : Keeps [g] w (((((w.setCell ⟨g, 0, none⟩ a).setCell ⟨g, 1, none⟩ b).setCell ⟨g, 2, none⟩ c).setCell ⟨g, 3, none⟩ d).setCell ⟨g, 4, none⟩ e) :=
  (((((Keeps.refl [g] w).setCell (by simp) _).setCell (by simp) _).setCell (by simp) _).setCell (by simp) _).setCell (by simp) _

theorem refnew_yes (n : Nat) (w : World) (h0 : 1 ≤ n) (h1 : n ≤ 262144) : Calls Try.prog 12 #[.int .i64 (n : Int)] w fun e w' => ∃ r : Rf, e = .returned (.tuple #[r.v, .int .i64 0]) ∧ RefAt w' r ∧ r.L = List.replicate n 0 ∧ r.W = [] ∧ r.armed = -1 ∧ r.lim = n ∧ r.done = 0 ∧ (∀ b ∈ r.all, w.heap.size ≤ b) ∧ Below w.heap.size w w' := by
  have ha : ¬ (n : Int) < 1 := by omega
  have hb : ¬ (262144 : Int) < n := by omega
  obtain ⟨i0, hi, hz0, hz1, hz2⟩ := info_parts u8_info
  have hi2 : i0.bytes * n ≤ 281474976710656 := by rw [hz2]; omega
  have hm : n ≤ maxLen := by unfold maxLen; omega
  go_enter Try.func12, Try.ntmps12
  go_wp2_with (at_make; refine wpList_make_full _ rfl _ _ _ rfl 0 5 i0 (.int .u8 0) 1 Try.underlying29 hi hz0 hz1 .i64 .i64 _ _ n rfl rfl rfl rfl hi2 hm (Nat.zero_le _) ?_; intro w1 hown hg; have hb0 := hg.block w.heap.size (by simp) (by simp); rw [heap_alloc_new] at hb0; have x0 := cell_of_blk hb0 0; have x1 := cell_of_blk hb0 1; have x2 := cell_of_blk hb0 2; have x3 := cell_of_blk hb0 3; have x4 := cell_of_blk hb0 4; have f0 := free_of_blk hb0 0; have f1 := free_of_blk hb0 1; have f2 := free_of_blk hb0 2; have f3 := free_of_blk hb0 3; have f4 := free_of_blk hb0 4; simp at x0 x1 x2 x3 x4; have HO := Lib.hid hown; have HG := Lib.hid hg; clear hown hg hb0)
  have hk1 : Keeps [] w w1 := ((Keeps.refl [] w).alloc _).trans' (Keeps.of_grown HG.out (by simp))
  have hsz := hk1.size
  have hown := made_own HO.out
  have hlt := (hown.lt _ rfl).2
  refine bodyPost_ret (v := .tuple #[(Rf.mk (some ⟨w.heap.size + 1, 0, none⟩) n none 0 (List.replicate n 0) [] (-1) n 0).v, .int .i64 0]) (by simp [results, Try.results12, go_sem, Rf.v, x0, x1, x2, x3, x4]) rfl ⟨_, rfl, ?_, rfl, rfl, rfl, rfl, rfl, ?_, ?_⟩
  · have hl : (List.replicate n (0 : UInt8)).length = n := by simp
    have hb : BytesAt w1 (.slice (some ⟨w.heap.size + 1, 0, none⟩) (List.replicate n (0 : UInt8)).length n) (List.replicate n 0) := by
      have h2 := hown
      simp only [World.size_alloc] at h2
      rw [← hl] at h2
      rw [hl] at h2 ⊢
      have h3 : w1.ownsRow 0 5 1 (.slice (some ⟨w.heap.size + 1, 0, none⟩) (List.replicate n (0 : UInt8)).length n) (List.replicate n (0 : UInt8)).length ((List.replicate n (0 : UInt8)).map bv) := by rw [hl]; exact h2
      have h4 := BytesAt.of_own h3
      rwa [hl] at h4
    refine ⟨hb.keep (Keeps.five w.heap.size _ _ _ _ _) ?_, ?_, World.ownsRow_nil _ _ _ _, by simp; omega, by simp; omega, by simp, by simp, by simp, by simp⟩
    · intro b hb
      simp only [Value.ownBlock, Option.some.injEq] at hb
      subst hb
      simp
    · intro b hb
      simp [Rf.all, Rf.lv, Rf.wv, Value.ownBlock] at hb
      subst hb
      simp [World.setCell] at hlt ⊢
      omega
  · intro b hb
    simp [Rf.all, Rf.lv, Rf.wv, Value.ownBlock] at hb
    omega
  · exact (hk1.trans (Keeps.five w.heap.size _ _ _ _ _) (by simp)).below (Nat.le_refl _) (by simp)

end Go.Proofs.Ytadpomclnhemoaa
