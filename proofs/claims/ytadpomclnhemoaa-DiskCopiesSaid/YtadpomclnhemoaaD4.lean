/- How a disk lies in memory; New and fresh make one. -/
import Derived.Test.YtadpomclnhemoaaD3
import Derived.Deep.RegionWith
namespace Go.Proofs.Ytadpomclnhemoaa
open Go.RowKit
set_option linter.unusedVariables false

/-- A write that waits: its place, the slice value of its bytes, the bytes. -/
structure Wt where
  off : Nat
  v : Value
  xs : List UInt8

def wcells (W : List Wt) : List Value := W.flatMap fun x => [.int .i64 (x.off : Int), x.v]

/-- A disk: the blocks of the struct, of what stands, of what lasts (with capacities), the slice of what waits; and what they hold. -/
structure Dk where
  p : Nat
  s : Nat
  cs : Nat
  l : Nat
  cl : Nat
  q : Value
  S : List UInt8
  L : List UInt8
  W : List Wt
  lim : Nat
  left : Int
  done : Nat

def Dk.sv (k : Dk) : Value := .slice (some ⟨k.s, 0, none⟩) k.S.length k.cs
def Dk.lv (k : Dk) : Value := .slice (some ⟨k.l, 0, none⟩) k.L.length k.cl
def Dk.cells (k : Dk) : Array Value := #[k.sv, k.lv, k.q, .int .i64 (k.lim : Int), .int .i64 k.left, .int .i64 (k.done : Int)]
/-- The blocks that a disk's own calls may turn. -/
def Dk.fp (k : Dk) : List Nat := k.p :: k.s :: k.l :: k.q.ownBlock.toList
/-- All its blocks: the writes' bytes, too. -/
def Dk.all (k : Dk) : List Nat := k.fp ++ k.W.filterMap fun x => x.v.ownBlock

structure DiskAt (w : World) (k : Dk) : Prop where
  blk : w.heap[k.p]? = some (.cells k.cells 62 (0, 0))
  st : w.ownsRow 0 5 1 k.sv k.S.length (k.S.map bv)
  la : w.ownsRow 0 5 1 k.lv k.L.length (k.L.map bv)
  wa : w.ownsRow 0 77 2 k.q k.W.length (wcells k.W)
  sl : k.s ≠ k.l
  len : k.L.length = k.S.length
  pos : 0 < k.S.length
  big : k.S.length ≤ 262144
  fit : ∀ x ∈ k.W, BytesAt w x.v x.xs ∧ x.off + x.xs.length ≤ k.S.length ∧ ∀ b, x.v.ownBlock = some b → b < w.heap.size ∧ b ∉ k.fp
  lim : k.lim ≤ k.S.length
  lo : -1 ≤ k.left
  hi : k.left ≤ 9223372036854775807

theorem fp_sub {k : Dk} {b : Nat} (h : b ∈ k.fp) : b ∈ k.all := List.mem_append_left _ h

theorem own_heap {w : World} {base : Nat} {e : TypeId} {z n : Nat} {v : Value} {xs : List Value} (h : w.ownsRow base e z v n xs) {b : Nat} (hb : v.ownBlock = some b) : ∃ cur, w.heap[b]? = some (.cells cur e (0, 0)) := by
  rcases h.2 with ⟨rfl, _⟩ | ⟨g, cap, cur, rfl, _, hh, _⟩
  · cases hb
  · simp only [Value.ownBlock, Option.some.injEq] at hb
    subst hb
    exact ⟨cur, hh⟩

theorem ne_of_types {w : World} {b b' : Nat} {c c' : Array Value} {t t' : TypeId} (h : w.heap[b]? = some (.cells c t (0, 0))) (h' : w.heap[b']? = some (.cells c' t' (0, 0))) (hn : t ≠ t') : b ≠ b' := by
  rintro rfl
  rw [h] at h'
  injection h' with h'
  injection h' with _ h2
  exact hn h2

section
variable {w w' : World} {k : Dk} {bs : List Nat}

theorem DiskAt.lt (h : DiskAt w k) : ∀ b ∈ k.all, b < w.heap.size := by
  intro b hb
  rcases List.mem_append.1 hb with hb | hb
  · simp only [Dk.fp, List.mem_cons, Option.mem_toList] at hb
    rcases hb with rfl | rfl | rfl | hb
    · exact lt_of_heap h.blk
    · exact (h.st.lt _ rfl).2
    · exact (h.la.lt _ rfl).2
    · exact (h.wa.lt _ hb).2
  · obtain ⟨x, hx, hb⟩ := List.mem_filterMap.1 hb
    exact ((h.fit x hx).2.2 b hb).1

theorem DiskAt.keep (h : DiskAt w k) (hk : Keeps bs w w') (hd : ∀ b ∈ k.all, b ∉ bs) : DiskAt w' k := by
  have hp : k.p ∉ bs := hd _ (fp_sub (by simp [Dk.fp]))
  have hs : k.s ∉ bs := hd _ (fp_sub (by simp [Dk.fp]))
  have hl : k.l ∉ bs := hd _ (fp_sub (by simp [Dk.fp]))
  refine ⟨(hk.block _ (lt_of_heap h.blk) hp).trans h.blk, own_keep h.st hk ?_, own_keep h.la hk ?_, own_keep h.wa hk ?_, h.sl, h.len, h.pos, h.big, ?_, h.lim, h.lo, h.hi⟩
  · intro b hb; simp only [Dk.sv, Value.ownBlock, Option.some.injEq] at hb; subst hb; exact hs
  · intro b hb; simp only [Dk.lv, Value.ownBlock, Option.some.injEq] at hb; subst hb; exact hl
  · intro b hb; exact hd _ (fp_sub (by simp [Dk.fp, hb]))
  · intro x hx
    obtain ⟨h1, h2, h3⟩ := h.fit x hx
    refine ⟨h1.keep hk ?_, h2, fun b hb => ⟨Nat.lt_of_lt_of_le (h3 b hb).1 hk.size, (h3 b hb).2⟩⟩
    intro b hb
    exact hd _ (List.mem_append_right _ (List.mem_filterMap.2 ⟨x, hx, hb⟩))

theorem DiskAt.grow (h : DiskAt w k) (hk : Keeps [] w w') : DiskAt w' k := h.keep hk (by simp)
theorem DiskAt.cell (h : DiskAt w k) (i : Nat) : w.cell? ⟨k.p, i, none⟩ = k.cells[i]? := cell_of_blk h.blk i
theorem DiskAt.free (h : DiskAt w k) (i : Nat) : w.frozen? ⟨k.p, i, none⟩ = false := free_of_blk h.blk i
theorem DiskAt.c0 (h : DiskAt w k) : w.cell? ⟨k.p, 0, none⟩ = some (.slice (some ⟨k.s, 0, none⟩) k.S.length k.cs) := h.cell 0
theorem DiskAt.c1 (h : DiskAt w k) : w.cell? ⟨k.p, 1, none⟩ = some (.slice (some ⟨k.l, 0, none⟩) k.L.length k.cl) := h.cell 1
theorem DiskAt.c2 (h : DiskAt w k) : w.cell? ⟨k.p, 2, none⟩ = some k.q := h.cell 2
theorem DiskAt.c3 (h : DiskAt w k) : w.cell? ⟨k.p, 3, none⟩ = some (.int .i64 (k.lim : Int)) := h.cell 3
theorem DiskAt.c4 (h : DiskAt w k) : w.cell? ⟨k.p, 4, none⟩ = some (.int .i64 k.left) := h.cell 4
theorem DiskAt.c5 (h : DiskAt w k) : w.cell? ⟨k.p, 5, none⟩ = some (.int .i64 (k.done : Int)) := h.cell 5
theorem DiskAt.nps (h : DiskAt w k) : k.p ≠ k.s := by obtain ⟨c, hc⟩ := own_heap h.st (b := k.s) rfl; exact ne_of_types h.blk hc (by decide)
theorem DiskAt.npl (h : DiskAt w k) : k.p ≠ k.l := by obtain ⟨c, hc⟩ := own_heap h.la (b := k.l) rfl; exact ne_of_types h.blk hc (by decide)
theorem DiskAt.npq (h : DiskAt w k) : k.q.ownBlock ≠ some k.p := by intro hb; obtain ⟨c, hc⟩ := own_heap h.wa hb; exact ne_of_types h.blk hc (by decide) rfl
theorem DiskAt.nsq (h : DiskAt w k) : k.q.ownBlock ≠ some k.s := by intro hb; obtain ⟨c, hc⟩ := own_heap h.wa hb; obtain ⟨d, hd⟩ := own_heap h.st (b := k.s) rfl; exact ne_of_types hd hc (by decide) rfl
theorem DiskAt.nlq (h : DiskAt w k) : k.q.ownBlock ≠ some k.l := by intro hb; obtain ⟨c, hc⟩ := own_heap h.wa hb; obtain ⟨d, hd⟩ := own_heap h.la (b := k.l) rfl; exact ne_of_types hd hc (by decide) rfl
end

/-- What fresh makes. -/
def freshDk (g c : Nat) (S : List UInt8) (lim p l cl : Nat) : Dk := ⟨p, g, c, l, cl, .slice none 0 0, S, S, [], lim, -1, 0⟩

theorem fresh_end {g c : Nat} {S : List UInt8} {lim : Nat} {w w1 : World} {A1 : Option Addr} {c1 : Nat} (hr : w.ownsRow 0 5 1 (.slice (some ⟨g, 0, none⟩) S.length c) S.length (S.map bv)) (h0 : 0 < S.length) (h1 : S.length ≤ 262144) (h2 : lim ≤ S.length)
    (ho : w1.ownsRow (w.heap.size + 1) 5 1 (.slice A1 S.length c1) S.length (S.map bv)) (hk : Keeps [] w w1) :
    ∃ l, A1 = some ⟨l, 0, none⟩ ∧ w.heap.size ≤ l ∧ DiskAt (w1.alloc (.cells #[.slice (some ⟨g, 0, none⟩) S.length c, .slice A1 S.length c1, .slice none 0 0, .int .i64 (lim : Int), .int .i64 (-1), .int .i64 0] 62)) (freshDk g c S lim w1.heap.size l c1) := by
  obtain ⟨l, cap, hv, hl, _⟩ := ho.form h0
  injection hv with hv1 _ hv3
  subst hv1
  have hgl : g < w.heap.size := (hr.lt g rfl).2
  have hk2 : Keeps [] w1 (w1.alloc (.cells #[.slice (some ⟨g, 0, none⟩) S.length c, .slice (some ⟨l, 0, none⟩) S.length c1, .slice none 0 0, .int .i64 (lim : Int), .int .i64 (-1), .int .i64 0] 62)) := (Keeps.refl _ _).alloc _
  refine ⟨l, rfl, by omega, heap_alloc_new _ _, own_keep hr (hk.trans' hk2) (by simp), own_keep (ho.mono (Nat.zero_le _)) hk2 (by simp), World.ownsRow_nil _ _ _ _, ?_, rfl, h0, h1, by simp [freshDk], h2, by simp [freshDk], by simp [freshDk]⟩
  simp only [freshDk]
  omega

theorem fresh_any (g c : Nat) (S : List UInt8) (lim : Nat) (w : World) (hr : w.ownsRow 0 5 1 (.slice (some ⟨g, 0, none⟩) S.length c) S.length (S.map bv)) (h0 : 0 < S.length) (h1 : S.length ≤ 262144) (h2 : lim ≤ S.length) :
    Calls Try.prog 28 #[.agg #[.slice (some ⟨g, 0, none⟩) S.length c], .int .i64 (lim : Int)] w fun e w' => ∃ p l cl, e = .returned (.pointer (some ⟨p, 0, none⟩)) ∧ DiskAt w' (freshDk g c S lim p l cl) ∧ w.heap.size ≤ p ∧ w.heap.size ≤ l ∧ Keeps [] w w' := by
  have HB := Lib.hid (BytesAt.of_own hr)
  have HR := Lib.hid hr
  clear hr
  go_enter Try.func28, Try.ntmps28
  go_wp2
  go_region_with (go_at_call 44; refine (another_any _ _ S _ (by omega) (HB.out.grow (((Keeps.refl [] w)).alloc _).drew)).mono ?_; rintro e w1 ⟨A1, c1, rfl, ho, hb⟩; have hx1 := (hb.cell (p := ⟨w.heap.size, 0, none⟩) (by simp)); simp at hx1)
  all_goals
    have hk : Keeps [] w w1 := (((Keeps.refl [] w).alloc _).drew).trans' (Keeps.of_below hb)
    obtain ⟨l, rfl, hl, HD⟩ := fresh_end HR.out h0 h1 h2 (by simpa using ho) hk
    have HD' := Lib.hid HD
    clear HD
    go_wp2
    go_ret
    exact ⟨_, l, c1, rfl, HD'.out, hk.size, hl, hk.alloc _⟩

theorem madeB (n : Nat) : (madeCells #[Value.int .u8 0] n).toList = (List.replicate n (0 : UInt8)).map bv := by rw [toList_madeCells_one]; simp [bv]

/-- New: refused but for 1 to 2^18 bytes. -/
theorem new_no (size : Int) (w : World) (h : size < 1 ∨ 262144 < size) : Calls Try.prog 11 #[.int .i64 size] w fun e w' => e = .returned (.tuple #[.pointer none, .int .i64 2]) ∧ w = w' := by
  rcases h with h | h
  · go_enter Try.func11, Try.ntmps11
    go_wp2
    refine wp_scope_once 0 rfl ?_
    go_wp2
    go_step3
    refine ⟨rfl, ?_⟩
    go_wp2
    rw [Exit.noGoto_ret]
    go_ret2
    exact ⟨rfl, rfl⟩
  · have h' : ¬ size < 1 := by omega
    go_enter Try.func11, Try.ntmps11
    go_wp2
    refine wp_scope_once 0 rfl ?_
    go_wp2
    go_step3
    refine ⟨rfl, ?_⟩
    go_wp2
    rw [Exit.noGoto_ret]
    go_ret2
    exact ⟨rfl, rfl⟩

theorem fresh_len (g c n : Nat) (S : List UInt8) (lim : Nat) (w : World) (hn : S.length = n) (hr : w.ownsRow 0 5 1 (.slice (some ⟨g, 0, none⟩) n c) n (S.map bv)) (h0 : 0 < n) (h1 : n ≤ 262144) (h2 : lim ≤ n) :
    Calls Try.prog 28 #[.agg #[.slice (some ⟨g, 0, none⟩) n c], .int .i64 (lim : Int)] w fun e w' => ∃ p l cl, e = .returned (.pointer (some ⟨p, 0, none⟩)) ∧ DiskAt w' (freshDk g c S lim p l cl) ∧ w.heap.size ≤ p ∧ w.heap.size ≤ l ∧ Keeps [] w w' := by
  subst hn
  exact fresh_any g c S lim w hr h0 h1 h2

theorem made_own {w : World} {n g : Nat} (h : w.ownsRow 0 5 1 (.slice (some ⟨g, 0, none⟩) n n) n (madeCells (Value.int .u8 0).cells (n * 1)).toList) : w.ownsRow 0 5 1 (.slice (some ⟨g, 0, none⟩) n n) n ((List.replicate n (0 : UInt8)).map bv) := by
  have e : (madeCells (Value.int .u8 0).cells (n * 1)).toList = (List.replicate n (0 : UInt8)).map bv := by rw [Nat.mul_one]; exact madeB n
  rwa [e] at h

theorem new_yes (n : Nat) (w : World) (h0 : 1 ≤ n) (h1 : n ≤ 262144) : Calls Try.prog 11 #[.int .i64 (n : Int)] w fun e w' => ∃ k, e = .returned (.tuple #[.pointer (some ⟨k.p, 0, none⟩), .int .i64 0]) ∧ DiskAt w' k ∧ k.S = List.replicate n 0 ∧ k.L = List.replicate n 0 ∧ k.W = [] ∧ k.lim = n ∧ k.left = -1 ∧ k.done = 0 ∧ (∀ b ∈ k.all, w.heap.size ≤ b) ∧ Keeps [] w w' := by
  have ha : ¬ (n : Int) < 1 := by omega
  have hb : ¬ (262144 : Int) < n := by omega
  obtain ⟨i0, hi, hz0, hz1, hz2⟩ := info_parts u8_info
  have hi2 : i0.bytes * n ≤ 281474976710656 := by rw [hz2]; omega
  have hm : n ≤ maxLen := by unfold maxLen; omega
  go_enter Try.func11, Try.ntmps11
  go_wp2
  refine wp_scope_once 0 rfl ?_
  go_wp2_with (first
    | (at_make; refine wpList_make_full _ rfl _ _ _ rfl 0 5 i0 (.int .u8 0) 1 Try.underlying29 hi hz0 hz1 .i64 .i64 _ _ n rfl rfl rfl rfl hi2 hm (Nat.zero_le _) ?_; intro w1 hown hg)
    | (go_at_call 28; refine (fresh_len w.heap.size n n (List.replicate n 0) n w1 (by simp) (made_own hown) (by omega) (by omega) (Nat.le_refl _)).mono ?_; rintro e w2 ⟨p, l, cl, rfl, HD, hp, hl, hk⟩))
  simp only [Exit.jump]
  go_ret2
  have hk1 : Keeps [] w w1 := Keeps.of_grown hg (by simp)
  refine ⟨freshDk w.heap.size n (List.replicate n 0) n p l cl, rfl, HD, rfl, rfl, rfl, rfl, rfl, rfl, ?_, hk1.trans' hk⟩
  intro b hb
  have := hk1.size
  simp [Dk.all, Dk.fp, freshDk, Value.ownBlock] at hb
  omega

end Go.Proofs.Ytadpomclnhemoaa
