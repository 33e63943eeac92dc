/- Copy: another disk with the same. -/
import Derived.Test.YtadpomclnhemoaaD14
namespace Go.Proofs.Ytadpomclnhemoaa
open Go.RowKit
set_option linter.unusedVariables false

theorem wcells_one {w : World} {k : Dk} (h : DiskAt w k) : ∀ u ∈ wcells k.W, u.oneCell' = true := by
  intro u hu
  simp only [wcells, List.mem_flatMap] at hu
  obtain ⟨x, hx, hu⟩ := hu
  simp only [List.mem_cons, List.not_mem_nil, or_false] at hu
  rcases hu with rfl | rfl
  · rfl
  · obtain ⟨A, c, e, _⟩ := (h.fit x hx).1
    rw [e]
    rfl

theorem clonew_nil (c : Nat) (w : World) : Calls Try.prog 45 #[.slice none 0 c] w fun e w' => e = .returned (.slice none 0 0) ∧ w = w' := by
  have hq := fun (W : World) (a : Option Addr) (n c : Nat) => Lib.run_eql_slice_nil (P := Try.prog) W 60 77 a n c 0 0 Try.underlying60
  go_enter Try.func45, Try.ntmps45
  go_wp2
  go_ret
  exact ⟨rfl, rfl⟩

theorem clonew_some (ad : Addr) (c n : Nat) (xs : List Value) (w : World) (hn : xs.length = n * 2) (hl : n ≤ 1000000) (h1 : ∀ u ∈ xs, u.oneCell' = true)
    (hc : ∀ j u, xs[j]? = some u → w.cell? (ad.add j) = some u) :
    Calls Try.prog 45 #[.slice (some ad) n c] w fun e w' => ∃ v, e = .returned v ∧ w'.ownsRow w.heap.size 77 2 v n xs ∧ Below w.heap.size w w' := by
  have hq := fun (W : World) (a : Option Addr) (n c : Nat) => Lib.run_eql_slice_nil (P := Try.prog) W 60 77 a n c 0 0 Try.underlying60
  obtain ⟨i0, hi, hz0, hz1, hz2⟩ := info_parts wr_info
  have HC := Lib.hid hc
  have H1 := Lib.hid h1
  have HN := Lib.hid hn
  clear hc h1 hn
  have HM : n ≤ maxLen := by unfold maxLen; omega
  go_enter Try.func45, Try.ntmps45
  go_wp2_with (at_builtin; refine wpList_append_own _ rfl _ _ _ rfl w.heap.size 77 i0 _ 2 32 Try.underlying60 hi hz0 hz1 hz2 rfl (by decide) (.slice (some ⟨w.heap.size, 0, none⟩) 0 0) 0 [] rfl (World.ownsRow_made w #[] 0 (Nat.le_refl _) (by unfold maxLen; omega) rfl) ad n c xs rfl HN.out (cells_alloc HC.out _) H1.out (by omega) (by omega) (by simp) ?_; intro v' w1 hown hg hnil)
  go_wp2
  go_ret
  refine ⟨v', rfl, by simpa using hown, ?_⟩
  exact ((Below.refl _ _).alloc (Nat.le_refl _) _).grown hg (by simp) (by simp [Value.ownBlock])

theorem clonew_any (A : Option Addr) (c n : Nat) (xs : List Value) (w : World) (h : w.ownsRow 0 77 2 (.slice A n c) n xs) (hl : n ≤ 1000000) (h1 : ∀ u ∈ xs, u.oneCell' = true) :
    Calls Try.prog 45 #[.slice A n c] w fun e w' => ∃ A' c', e = .returned (.slice A' n c') ∧ w'.ownsRow w.heap.size 77 2 (.slice A' n c') n xs ∧ Below w.heap.size w w' := by
  have h0 := h
  rcases h.2 with ⟨he, hn⟩ | ⟨g, cap, cur, he, _⟩
  · injection he with he1 he2 he3
    subst he1
    subst hn
    have hx : xs = [] := List.eq_nil_of_length_eq_zero (by simpa using h.1)
    subst hx
    refine (clonew_nil c w).mono ?_
    rintro e w' ⟨rfl, rfl⟩
    exact ⟨_, _, rfl, World.ownsRow_nil _ _ _ _, Below.refl _ _⟩
  · injection he with he1 _ _
    subst he1
    refine (clonew_some ⟨g, 0, none⟩ c n xs w h.1 hl h1 (h0.cells (g := g) rfl)).mono ?_
    rintro e w' ⟨v, rfl, ho, hb⟩
    obtain ⟨A', c', rfl⟩ := own_slice ho
    exact ⟨A', c', rfl, ho, hb⟩

/-- A copy: new blocks, the same bytes of the writes. -/
structure Copied (w : World) (k : Dk) (w' : World) (k' : Dk) : Prop where
  disk : DiskAt w' k'
  dat : k'.dat = k.dat
  fp : ∀ b ∈ k'.fp, w.heap.size ≤ b
  all : ∀ b ∈ k'.all, w.heap.size ≤ b ∨ (b ∈ k.all ∧ b ∉ k.fp)
  keeps : Keeps [] w w'

theorem copy_end {w w1 w2 w3 : World} {k : Dk} {s cs l cl : Nat} {q : Value} {p : Nat} (h : DiskAt w k) (hp : w.heap.size ≤ p)
    (hs : w3.ownsRow (w.heap.size + 1) 5 1 (.slice (some ⟨s, 0, none⟩) k.S.length cs) k.S.length (k.S.map bv)) (hl : w3.ownsRow (w.heap.size + 1) 5 1 (.slice (some ⟨l, 0, none⟩) k.L.length cl) k.L.length (k.L.map bv))
    (hq : w3.ownsRow (w.heap.size + 1) 77 2 q k.W.length (wcells k.W)) (hsl : s ≠ l) (hk : Keeps [] w w3)
    (hb : w3.heap[p]? = some (.cells #[.slice (some ⟨s, 0, none⟩) k.S.length cs, .slice (some ⟨l, 0, none⟩) k.L.length cl, q, .int .i64 (k.lim : Int), .int .i64 k.left, .int .i64 (k.done : Int)] 62 (0, 0))) :
    Copied w k w3 ⟨p, s, cs, l, cl, q, k.S, k.L, k.W, k.lim, k.left, k.done⟩ := by
  have hsw := (hs.lt s rfl).1
  have hlw := (hl.lt l rfl).1
  have hfp : ∀ b ∈ (⟨p, s, cs, l, cl, q, k.S, k.L, k.W, k.lim, k.left, k.done⟩ : Dk).fp, w.heap.size ≤ b := by
    intro b hb
    simp only [Dk.fp, List.mem_cons, Option.mem_toList] at hb
    rcases hb with rfl | rfl | rfl | hb
    · exact hp
    · omega
    · omega
    · have := (hq.lt b hb).1; omega
  refine ⟨⟨hb, hs.mono (Nat.zero_le _), hl.mono (Nat.zero_le _), hq.mono (Nat.zero_le _), hsl, h.len, h.pos, h.big, ?_, h.lim, h.lo, h.hi⟩, rfl, hfp, ?_, hk⟩
  · intro x hx
    obtain ⟨a1, a2, a3⟩ := h.fit x hx
    refine ⟨a1.grow hk, a2, fun b hb => ⟨Nat.lt_of_lt_of_le (a3 b hb).1 hk.size, fun hm => ?_⟩⟩
    have h1 := (a3 b hb).1
    have h2 := hfp b hm
    omega
  · intro b hb
    rcases List.mem_append.1 hb with hb | hb
    · exact .inl (hfp b hb)
    · right
      refine ⟨List.mem_append_right _ hb, ?_⟩
      obtain ⟨x, hx, hb⟩ := List.mem_filterMap.1 hb
      exact ((h.fit x hx).2.2 b hb).2

/-- What is known of the world while a copy is made: the old disk, the new struct's cells. -/
structure CopyAt (w : World) (k : Dk) (W : World) (cs : Array Value) : Prop where
  keeps : Keeps [] w W
  blk : W.heap[w.heap.size]? = some (.cells cs 62 (0, 0))

theorem CopyAt.set {w W W' : World} {k : Dk} {cs : Array Value} (h : CopyAt w k W cs) (hb : Below W.heap.size W W') (i : Nat) (u : Value) : CopyAt w k (W'.setCell ⟨w.heap.size, i, none⟩ u) (cs.setIfInBounds i u) :=
  ⟨(h.keeps.trans' (Keeps.of_below hb)).setCell (by simp) _, blk_set ((hb.block _ (lt_of_heap h.blk)).trans h.blk) i u⟩

theorem own_copy {w W W' : World} {k : Dk} {cs : Array Value} (h : CopyAt w k W cs) {e : TypeId} {z n : Nat} {v : Value} {xs : List Value} (ho : W'.ownsRow W.heap.size e z v n xs) (i : Nat) (u : Value) : (W'.setCell ⟨w.heap.size, i, none⟩ u).ownsRow (w.heap.size + 1) e z v n xs := by
  have hl := lt_of_heap h.blk
  refine own_keep (bs := [w.heap.size]) (ho.mono (by omega)) ((Keeps.refl _ _).setCell (by simp) _) (fun b hb => ?_)
  have := (ho.lt b hb).1
  simp
  omega

theorem own_on {w W W' : World} {k : Dk} {cs : Array Value} (h : CopyAt w k W cs) {e : TypeId} {z n : Nat} {v : Value} {xs : List Value} (ho : W.ownsRow (w.heap.size + 1) e z v n xs) (hb : Below W.heap.size W W') (i : Nat) (u : Value) : (W'.setCell ⟨w.heap.size, i, none⟩ u).ownsRow (w.heap.size + 1) e z v n xs := by
  refine own_keep (bs := [w.heap.size]) (own_keep (bs := []) ho (Keeps.of_below hb) (by simp)) ((Keeps.refl _ _).setCell (by simp) _) (fun b hb => ?_)
  have := (ho.lt b hb).1
  simp
  omega

set_option maxHeartbeats 1000000 in
theorem copy_any (k : Dk) (w : World) (h : DiskAt w k) (hW : k.W.length ≤ 1000000) :
    Calls Try.prog 23 #[.pointer (some ⟨k.p, 0, none⟩)] w fun e w' => ∃ k', e = .returned (.pointer (some ⟨k'.p, 0, none⟩)) ∧ Copied w k w' k' := by
  have c0 := h.c0
  have c1 := h.c1
  have c2 := h.c2
  have c3 := h.c3
  have c4 := h.c4
  have c5 := h.c5
  have hp := h.pos
  have hb := h.big
  have hpl := lt_of_heap h.blk
  obtain ⟨Aq, cq, hqv⟩ := own_slice h.wa
  rw [hqv] at c2
  have HQ := Lib.hid hqv
  have HL := Lib.hid h.len
  have HD := Lib.hid h
  clear h hqv
  go_enter Try.func23, Try.ntmps23
  go_wp2_with (first
    | (go_at_call 33; refine (missing_not _ _ _ _ _ c0 (by omega) (by omega)).mono ?_; rintro e w' ⟨rfl, rfl⟩))
  have h0 : CopyAt w k (w.alloc (.cells #[.slice (some ⟨k.s, 0, none⟩) k.S.length k.cs, .slice (some ⟨k.l, 0, none⟩) k.L.length k.cl, .slice Aq k.W.length cq, .int .i64 (k.lim : Int), .int .i64 k.left, .int .i64 (k.done : Int)] 62)) _ := ⟨(Keeps.refl [] w).alloc _, heap_alloc_new w _⟩
  have H0 := Lib.hid h0
  clear h0
  refine (another_any _ _ k.S _ (by omega) ((BytesAt.of_own HD.out.st).grow H0.out.keeps)).mono ?_
  rintro e w1 ⟨A1, n1, rfl, ho1, hb1⟩
  obtain ⟨s, cap1, hv1, _, _⟩ := ho1.form hp
  injection hv1 with hv1 _ hv1c
  subst hv1c
  subst hv1
  have HO1 := Lib.hid (own_copy H0.out ho1 0 (.slice (some ⟨s, 0, none⟩) k.S.length n1))
  have H1 := Lib.hid (H0.out.set hb1 0 (.slice (some ⟨s, 0, none⟩) k.S.length n1))
  have hblk1 := (hb1.block _ (lt_of_heap H0.out.blk)).trans H0.out.blk
  have x1 := cell_of_blk hblk1 0
  have y1 := free_of_blk hblk1 0
  have hd1 := HD.out.grow (H0.out.keeps.trans' (Keeps.of_below hb1))
  have z1 := hd1.c1
  have hne : (⟨w.heap.size, 0, none⟩ : Addr) ≠ ⟨k.p, 1, none⟩ := by intro e; injection e with e; omega
  have z1' := fun v => (World.cell?_setCell_other w1 ⟨w.heap.size, 0, none⟩ ⟨k.p, 1, none⟩ v hne).trans z1
  simp at x1
  clear hblk1 hd1 ho1 hb1 c1 hne z1
  go_wp2_with fail
  revert HO1 H1
  generalize w1.setCell ⟨w.heap.size, 0, none⟩ (.slice (some ⟨s, 0, none⟩) k.S.length n1) = W1
  intro HO1 H1
  clear x1 y1 z1'
  refine (another_any _ _ k.L _ (by have := HL.out; omega) ((BytesAt.of_own HD.out.la).grow H1.out.keeps)).mono ?_
  rintro e w2 ⟨A2, n2, rfl, ho2, hb2⟩
  obtain ⟨l, cap2, hv2, _, _⟩ := ho2.form (by have := HL.out; omega)
  injection hv2 with hv2 _ hv2c
  subst hv2c
  subst hv2
  have hsl : s ≠ l := by
    have h1 := (HO1.out.lt s rfl).2
    have h2 := (ho2.lt l rfl).1
    omega
  have HO2 := Lib.hid (own_copy H1.out ho2 1 (.slice (some ⟨l, 0, none⟩) k.L.length n2))
  have HO1' := Lib.hid (own_on H1.out HO1.out hb2 1 (.slice (some ⟨l, 0, none⟩) k.L.length n2))
  have H2 := Lib.hid (H1.out.set hb2 1 (.slice (some ⟨l, 0, none⟩) k.L.length n2))
  have hblk2 := (hb2.block _ (lt_of_heap H1.out.blk)).trans H1.out.blk
  have x2 := cell_of_blk hblk2 1
  have y2 := free_of_blk hblk2 1
  have hd2 := HD.out.grow (H1.out.keeps.trans' (Keeps.of_below hb2))
  have z2 := hd2.c2
  rw [HQ.out] at z2
  have hne : (⟨w.heap.size, 1, none⟩ : Addr) ≠ ⟨k.p, 2, none⟩ := by intro e; injection e with e; omega
  have z2' := fun v => (World.cell?_setCell_other w2 ⟨w.heap.size, 1, none⟩ ⟨k.p, 2, none⟩ v hne).trans z2
  simp at x2
  clear hblk2 hd2 ho2 hb2 c2 hne z2 HO1 H1 H0
  go_wp2_with fail
  revert HO2 HO1' H2
  generalize w2.setCell ⟨w.heap.size, 1, none⟩ (.slice (some ⟨l, 0, none⟩) k.L.length n2) = W2
  intro HO2 HO1' H2
  clear x2 y2 z2'
  have hq := (HD.out.grow H2.out.keeps).wa
  rw [HQ.out] at hq
  refine (clonew_any Aq cq k.W.length (wcells k.W) W2 hq hW (wcells_one HD.out)).mono ?_
  rintro e w3 ⟨A3, n3, rfl, ho3, hb3⟩
  have HO3 := Lib.hid (own_copy H2.out ho3 2 (.slice A3 k.W.length n3))
  have HO1'' := Lib.hid (own_on H2.out HO1'.out hb3 2 (.slice A3 k.W.length n3))
  have HO2'' := Lib.hid (own_on H2.out HO2.out hb3 2 (.slice A3 k.W.length n3))
  have H3 := Lib.hid (H2.out.set hb3 2 (.slice A3 k.W.length n3))
  have hblk3 := (hb3.block _ (lt_of_heap H2.out.blk)).trans H2.out.blk
  have x3 := cell_of_blk hblk3 2
  have y3 := free_of_blk hblk3 2
  simp at x3
  clear hblk3 ho3 hb3 hq
  go_wp2_with fail
  go_ret
  exact ⟨_, rfl, copy_end (w1 := w) (w2 := w) HD.out (Nat.le_refl _) HO1''.out HO2''.out HO3.out hsl H3.out.keeps (by simpa using H3.out.blk)⟩

end Go.Proofs.Ytadpomclnhemoaa
