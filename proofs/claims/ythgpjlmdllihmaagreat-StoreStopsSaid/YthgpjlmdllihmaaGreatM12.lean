/- Texts of one proof, laid together: D12 D13 D14 D15. -/
import Derived.Test.YthgpjlmdllihmaaGreatM11
/- Crash: the disk that it leaves. -/
namespace Go.Proofs.YthgpjlmdllihmaaGreat
open Go.RowKit
set_option linter.unusedVariables false
set_option maxRecDepth 100000

def Dat.crash (d : Dat) (keep torn : Int) : Dat := ⟨tornOf d keep torn, tornOf d keep torn, [], d.lim, -1, 0⟩

theorem freshDk_all {g c : Nat} {S : List UInt8} {lim p l cl B : Nat} (h1 : B ≤ g) (h2 : B ≤ p) (h3 : B ≤ l) : ∀ b ∈ (freshDk g c S lim p l cl).all, B ≤ b := by
  intro b hb
  simp [Dk.all, Dk.fp, freshDk, Value.ownBlock] at hb
  omega

set_option maxHeartbeats 1000000 in
theorem crash_yes (k : Dk) (keep torn : Int) (w : World) (h : DiskAt w k) (hk : -9223372036854775808 ≤ keep ∧ keep ≤ 9223372036854775807) (ht : -9223372036854775808 ≤ torn ∧ torn ≤ 9223372036854775807) (hW : k.W.length ≤ 1000000) :
    Calls Tryz.prog 14 #[.pointer (some ⟨k.p, 0, none⟩), .agg #[.int .i64 keep, .int .i64 torn]] w fun e w' => ∃ k', e = .returned (.tuple #[.pointer (some ⟨k'.p, 0, none⟩), .int .i64 0]) ∧ DiskAt w' k' ∧ k'.dat = k.dat.crash keep torn ∧ (∀ b ∈ k'.all, w.heap.size ≤ b) ∧ Keeps [] w w' := by
  have c0 := h.c0
  have c3 := h.c3
  have hp := h.pos
  have hb := h.big
  have hlim := h.lim
  have hpl := lt_of_heap h.blk
  have c0' := fun o : Obj => (World.cell?_alloc_lt w o ⟨k.p, 0, none⟩ hpl).trans c0
  have HD := Lib.hid h
  have HK := Lib.hid hk
  have HT := Lib.hid ht
  clear h hk ht
  go_enter Tryz.func14, Tryz.ntmps14
  go_wp2
  refine wp_scope_once 0 rfl ?_
  go_wp2_with (first
    | (go_at_call 30; refine (missing_not _ _ _ _ _ (c0' _) (by omega) (by omega)).mono ?_; rintro e w' ⟨rfl, rfl⟩))
  go_region_with (first
    | (go_at_call 31; refine (torn_try k keep torn _ (HD.out.grow ((Keeps.refl [] w).alloc _).drew) HK.out HT.out hW).mono ?_; rintro e w1 ⟨g, c, rfl, ho, hb1⟩; have c31 := (hb1.cell (p := ⟨k.p, 3, none⟩) (by simp [World.drew]; omega)); have HO := Lib.hid ho; have HB1 := Lib.hid hb1; clear ho hb1; simp at c31)
    | (go_at_call 20; refine (fresh_len g c k.S.length (tornOf k.dat keep torn) k.lim w1 (by simpa using HO.out.1) (HO.out.mono (Nat.zero_le _)) (by omega) (by omega) (by omega)).mono ?_; rintro e w2 ⟨p, l, cl, rfl, hd2, hp2, hl2, hk2⟩; have HD2 := Lib.hid hd2; have HK2 := Lib.hid hk2; clear hd2 hk2))
  all_goals
    have hkk : Keeps [] w w1 := ((Keeps.refl [] w).alloc (.cells #[.int .i64 keep, .int .i64 torn] 25)).drew.trans' (Keeps.of_below HB1.out)
    have hgg : w.heap.size ≤ g := by have := (HO.out.lt g rfl).1; simp [World.drew] at this; omega
    have hsz := hkk.size
    have HKK := Lib.hid hkk
    clear hkk
    go_wp2
    simp only [Exit.jump]
    go_ret2
    exact ⟨freshDk g c (tornOf k.dat keep torn) k.lim p l cl, rfl, HD2.out, rfl, freshDk_all hgg (by omega) (by omega), HKK.out.trans' HK2.out⟩

end Go.Proofs.YthgpjlmdllihmaaGreat
/- known: the statements' own example. -/
namespace Go.Proofs.YthgpjlmdllihmaaGreat
open Go.RowKit
set_option linter.unusedVariables false
set_option maxRecDepth 100000

theorem conv_bytes {w : World} {v : Value} {xs : List UInt8} (h : BytesAt w v xs) : (convert 55 9 v).run Tryz.prog w = .ok (.string ⟨xs.toArray⟩) w := by
  have h0 := h
  obtain ⟨A, c, rfl, h1, h2, h3⟩ := h
  rcases A with _ | a
  · have hx : xs = [] := by
      rcases Nat.eq_zero_or_pos xs.length with h | h
      · exact List.eq_nil_of_length_eq_zero h
      · obtain ⟨_, _, h, _⟩ := h3 h; cases h
    subst hx
    exact run_convert_bytes_nil w 55 5 Tryz.underlying55 Tryz.underlying5 _ _ 9 Tryz.underlying9
  · refine run_convert_bytes_back w 55 9 5 a c xs Tryz.underlying55 Tryz.underlying5 Tryz.underlying9 fun j hj => ?_
    exact h0.cells j _ (by simp [List.getElem?_eq_getElem hj, bv])

/-- Two bytes in a block of their own. -/
theorem two_at (w : World) (x y : UInt8) : BytesAt (w.alloc (.cells #[.int .u8 (x.toNat : Int), .int .u8 (y.toNat : Int)] 5)) (.slice (some ⟨w.heap.size, 0, none⟩) 2 2) [x, y] := by
  refine ⟨_, 2, rfl, Nat.le_refl _, by unfold maxLen; omega, fun _ => ⟨w.heap.size, 0, rfl, fun i u hu => ?_⟩⟩
  rw [Nat.zero_add, World.cell?_alloc_new]
  match i, hu with
  | 0, hu => simp at hu; subst hu; rfl
  | 1, hu => simp at hu; subst hu; rfl

theorem dat_len {k : Dk} {d : Dat} (h : k.dat = d) : k.W.length = d.W.length := by rw [← h]; simp [Dk.dat]
theorem dat_S {k : Dk} {d : Dat} (h : k.dat = d) : k.S = d.S := by rw [← h]; rfl
theorem dat_lim {k : Dk} {d : Dat} (h : k.dat = d) : k.lim = d.lim := by rw [← h]; rfl
theorem dat_left {k : Dk} {d : Dat} (h : k.dat = d) : k.left = d.left := by rw [← h]; rfl
theorem dat_done {k : Dk} {d : Dat} (h : k.dat = d) : k.done = d.done := by rw [← h]; rfl

theorem write_dat (k : Dk) (d : Dat) (off : Nat) (B : Option Addr) (n c : Nat) (xs : List UInt8) (w : World) (h : DiskAt w k) (hd : k.dat = d) (hn : xs.length = n) (hv : BytesAt w (.slice B n c) xs) (h1 : off + n ≤ d.S.length) (h2 : off + n ≤ d.lim) (h3 : d.left ≠ 0) (h4 : d.W.length ≤ 1000000) (h5 : d.done < 4611686018427387904) :
    Calls Tryz.prog 62 #[.pointer (some ⟨k.p, 0, none⟩), .int .i64 (off : Int), .slice B n c] w fun e w' => e = .returned (.int .i64 0) ∧ ∃ k', Goes w k w' k' ∧ k'.dat = d.write off xs := by
  refine (write_yes k off B n c xs w h hn hv (by rw [dat_S hd]; exact h1) (by rw [dat_lim hd]; exact .inr h2) (by rw [dat_left hd]; exact h3) (by rw [dat_len hd]; exact h4) (by rw [dat_done hd]; exact h5)).mono ?_
  rintro e w' ⟨he, k', hg, hk, _⟩
  exact ⟨he, k', hg, by rw [hk, hd]⟩

theorem sync_dat (k : Dk) (d : Dat) (w : World) (h : DiskAt w k) (hd : k.dat = d) (h3 : d.left ≠ 0) (h4 : d.W.length ≤ 1000000) (h5 : d.done < 4611686018427387904) :
    Calls Tryz.prog 64 #[.pointer (some ⟨k.p, 0, none⟩)] w fun e w' => e = .returned (.int .i64 0) ∧ ∃ k', Goes w k w' k' ∧ k'.dat = d.sync := by
  refine (sync_yes k w h (by rw [dat_left hd]; exact h3) (by rw [dat_len hd]; exact h4) (by rw [dat_done hd]; exact h5)).mono ?_
  rintro e w' ⟨he, k', hg, hk, _⟩
  exact ⟨he, k', hg, by rw [hk, hd]⟩

theorem crash_dat (k : Dk) (d : Dat) (keep torn : Int) (w : World) (h : DiskAt w k) (hd : k.dat = d) (hk : -9223372036854775808 ≤ keep ∧ keep ≤ 9223372036854775807) (ht : -9223372036854775808 ≤ torn ∧ torn ≤ 9223372036854775807) (hW : d.W.length ≤ 1000000) :
    Calls Tryz.prog 14 #[.pointer (some ⟨k.p, 0, none⟩), .agg #[.int .i64 keep, .int .i64 torn]] w fun e w' => ∃ k', e = .returned (.tuple #[.pointer (some ⟨k'.p, 0, none⟩), .int .i64 0]) ∧ DiskAt w' k' ∧ k'.dat = d.crash keep torn ∧ (∀ b ∈ k'.all, w.heap.size ≤ b) ∧ Keeps [] w w' := by
  refine (crash_yes k keep torn w h hk ht (by rw [dat_len hd]; exact hW)).mono ?_
  rintro e w' ⟨k', he, h1, h2, h3, h4⟩
  exact ⟨k', he, h1, by rw [h2, hd], h3, h4⟩

theorem read_dat (k : Dk) (d : Dat) (off n : Nat) (xs : List UInt8) (w : World) (h : DiskAt w k) (hd : k.dat = d) (hf : off + n ≤ d.S.length) (hx : (d.S.drop off).take n = xs) :
    Calls Tryz.prog 54 #[.pointer (some ⟨k.p, 0, none⟩), .int .i64 (off : Int), .int .i64 (n : Int)] w fun e w' => ∃ A c, e = .returned (.tuple #[.slice A n c, .int .i64 0]) ∧ BytesAt w' (.slice A n c) xs ∧ Below w.heap.size w w' := by
  refine (read_yes k off n w h (by rw [dat_S hd]; exact hf)).mono ?_
  rintro e w' ⟨A, c, he, ho, hb⟩
  have hl : xs.length = n := by rw [← hx]; simp; omega
  rw [dat_S hd, hx] at ho
  refine ⟨A, c, he, ?_, hb⟩
  subst hl
  exact BytesAt.of_own ho

theorem Goes.grow {w w' : World} {k k' : Dk} {bs : List Nat} (h : Goes w k w' k') (hb : ∀ b ∈ k.all, w.heap.size ≤ b ∨ b ∈ bs) : Keeps bs w w' :=
  h.keeps.mono fun x hx => by
    rcases hb x (fp_sub hx) with h | h
    · exact .inr h
    · exact .inl h

/-- Beginning at a world, blocks that are all newer stay so. -/
theorem Goes.newer {w w' : World} {k k' : Dk} {B : Nat} (h : Goes w k w' k') (hB : B ≤ w.heap.size) (hb : ∀ b ∈ k.all, B ≤ b) : ∀ b ∈ k'.all, B ≤ b := by
  intro b hm
  rcases h.all b hm with h' | h'
  · exact hb b h'
  · omega

end Go.Proofs.YthgpjlmdllihmaaGreat
/- A disk that is not there, and a zero one: what each call answers. -/
namespace Go.Proofs.YthgpjlmdllihmaaGreat
open Go.RowKit
set_option linter.unusedVariables false
set_option maxRecDepth 100000

theorem read_nil (a n : Int) (w : World) : Calls Tryz.prog 54 #[.pointer none, .int .i64 a, .int .i64 n] w fun e w' => e = .returned (.tuple #[.slice none 0 0, .int .i64 1]) ∧ w = w' := by
  go_enter Tryz.func54, Tryz.ntmps54
  go_wp2
  refine wp_scope_once 0 rfl ?_
  go_wp2_with (go_at_call 30; refine (missing_nil _).mono ?_; rintro e w' ⟨rfl, rfl⟩)
  go_step3
  refine ⟨rfl, ?_⟩
  go_wp2
  rw [Exit.noGoto_ret]
  go_ret2
  exact ⟨rfl, rfl⟩

theorem write_nil (a : Int) (v : Value) (w : World) : Calls Tryz.prog 62 #[.pointer none, .int .i64 a, v] w fun e w' => e = .returned (.int .i64 1) ∧ w = w' := by
  go_enter Tryz.func62, Tryz.ntmps62
  go_wp2
  refine wp_scope_once 0 rfl ?_
  go_wp2_with (go_at_call 30; refine (missing_nil _).mono ?_; rintro e w' ⟨rfl, rfl⟩)
  go_step3
  refine ⟨rfl, ?_⟩
  go_wp2
  rw [Exit.noGoto_ret]
  go_ret
  exact ⟨rfl, rfl⟩

theorem arm_nil (a : Int) (w : World) : Calls Tryz.prog 13 #[.pointer none, .int .i64 a] w fun e w' => e = .returned (.int .i64 1) ∧ w = w' := by
  go_enter Tryz.func13, Tryz.ntmps13
  go_wp2
  refine wp_scope_once 0 rfl ?_
  go_wp2_with (go_at_call 30; refine (missing_nil _).mono ?_; rintro e w' ⟨rfl, rfl⟩)
  go_step3
  refine ⟨rfl, ?_⟩
  go_wp2
  rw [Exit.noGoto_ret]
  go_ret
  exact ⟨rfl, rfl⟩

theorem sync_zero (p : Nat) (w : World) (hc : w.cell? ⟨p, 0, none⟩ = some (.slice none 0 0)) : Calls Tryz.prog 64 #[.pointer (some ⟨p, 0, none⟩)] w fun e w' => e = .returned (.int .i64 1) ∧ Keeps [] w w' := by
  have hc' := fun o : Obj => (World.cell?_alloc_lt w o ⟨p, 0, none⟩ (lt_of_cell hc)).trans hc
  go_enter Tryz.func64, Tryz.ntmps64
  go_wp2
  refine wp_scope_once 0 rfl ?_
  go_wp2_with (go_at_call 30; refine (missing_zero p _ (hc' _)).mono ?_; rintro e w' ⟨rfl, rfl⟩)
  go_step3
  refine ⟨rfl, ?_⟩
  go_wp2
  rw [Exit.noGoto_ret]
  go_ret
  exact ⟨rfl, (Keeps.refl _ _).alloc _⟩

theorem crash_zero (p : Nat) (a b : Int) (w : World) (hc : w.cell? ⟨p, 0, none⟩ = some (.slice none 0 0)) : Calls Tryz.prog 14 #[.pointer (some ⟨p, 0, none⟩), .agg #[.int .i64 a, .int .i64 b]] w fun e w' => e = .returned (.tuple #[.pointer none, .int .i64 1]) ∧ Keeps [] w w' := by
  have hc' := fun o : Obj => (World.cell?_alloc_lt w o ⟨p, 0, none⟩ (lt_of_cell hc)).trans hc
  go_enter Tryz.func14, Tryz.ntmps14
  go_wp2
  refine wp_scope_once 0 rfl ?_
  go_wp2_with (go_at_call 30; refine (missing_zero p _ (hc' _)).mono ?_; rintro e w' ⟨rfl, rfl⟩)
  go_step3
  refine ⟨rfl, ?_⟩
  go_wp2
  rw [Exit.noGoto_ret]
  go_ret2
  exact ⟨rfl, (Keeps.refl _ _).alloc _⟩

theorem copy_nil (w : World) : Calls Tryz.prog 29 #[.pointer none] w fun e w' => e = .returned (.pointer none) ∧ w = w' := by
  go_enter Tryz.func29, Tryz.ntmps29
  go_wp2_with (go_at_call 30; refine (missing_nil _).mono ?_; rintro e w' ⟨rfl, rfl⟩)
  go_ret
  exact ⟨rfl, rfl⟩

theorem same_nil_zero (p : Nat) (w : World) (hc : w.cell? ⟨p, 0, none⟩ = some (.slice none 0 0)) : Calls Tryz.prog 17 #[.pointer none, .pointer (some ⟨p, 0, none⟩)] w fun e w' => e = .returned (.bool true) ∧ w = w' := by
  have h1 := Lib.hid (missing_nil w)
  have h2 := Lib.hid (missing_zero p w hc)
  go_enter Tryz.func17, Tryz.ntmps17
  go_wp2_with fail
  refine h1.out.mono ?_
  rintro e w' ⟨rfl, rfl⟩
  go_wp2_with fail
  refine h1.out.mono ?_
  rintro e w' ⟨rfl, rfl⟩
  go_wp2_with fail
  refine h2.out.mono ?_
  rintro e w' ⟨rfl, rfl⟩
  go_wp2
  go_ret
  exact ⟨rfl, rfl⟩

theorem same_nil_disk (k : Dk) (w : World) (h : DiskAt w k) : Calls Tryz.prog 17 #[.pointer none, .pointer (some ⟨k.p, 0, none⟩)] w fun e w' => e = .returned (.bool false) ∧ w = w' := by
  have hp := h.pos
  have hb := h.big
  have h1 := Lib.hid (missing_nil w)
  have h2 := Lib.hid (missing_not _ _ _ _ w h.c0 (by omega) (by omega))
  go_enter Tryz.func17, Tryz.ntmps17
  go_wp2_with fail
  refine h1.out.mono ?_
  rintro e w' ⟨rfl, rfl⟩
  go_wp2_with fail
  refine h1.out.mono ?_
  rintro e w' ⟨rfl, rfl⟩
  go_wp2_with fail
  refine h2.out.mono ?_
  rintro e w' ⟨rfl, rfl⟩
  go_wp2
  go_ret
  exact ⟨rfl, rfl⟩

theorem same_disk_zero (k : Dk) (p : Nat) (w : World) (h : DiskAt w k) (hc : w.cell? ⟨p, 0, none⟩ = some (.slice none 0 0)) : Calls Tryz.prog 17 #[.pointer (some ⟨k.p, 0, none⟩), .pointer (some ⟨p, 0, none⟩)] w fun e w' => e = .returned (.bool false) ∧ w = w' := by
  have hp := h.pos
  have hb := h.big
  have h1 := Lib.hid (missing_not _ _ _ _ w h.c0 (by omega) (by omega))
  have h2 := Lib.hid (missing_zero p w hc)
  go_enter Tryz.func17, Tryz.ntmps17
  go_wp2_with fail
  refine h1.out.mono ?_
  rintro e w' ⟨rfl, rfl⟩
  go_wp2_with fail
  refine h2.out.mono ?_
  rintro e w' ⟨rfl, rfl⟩
  go_wp2_with fail
  refine h1.out.mono ?_
  rintro e w' ⟨rfl, rfl⟩
  go_wp2
  go_ret
  exact ⟨rfl, rfl⟩

end Go.Proofs.YthgpjlmdllihmaaGreat
/- Copy: another disk with the same. -/
namespace Go.Proofs.YthgpjlmdllihmaaGreat
open Go.RowKit
set_option linter.unusedVariables false
set_option maxRecDepth 100000

theorem wcells_one {w : World} {k : Dk} (h : DiskAt w k) : ∀ u ∈ wcells k.W, u.oneCell' = true := by
  intro u hu
  simp only [wcells, List.mem_flatMap] at hu
  obtain ⟨x, hx, hu⟩ := hu
  simp only [List.mem_cons, List.not_mem_nil, or_false] at hu
  rcases hu with rfl | rfl
  · rfl
  · obtain ⟨A, c, e, _⟩ := (h.fit x hx).1
    rw [e]
    rfl

theorem clonew_nil (c : Nat) (w : World) : Calls Tryz.prog 49 #[.slice none 0 c] w fun e w' => e = .returned (.slice none 0 0) ∧ w = w' := by
  have hq := fun (W : World) (a : Option Addr) (n c : Nat) => Lib.run_eql_slice_nil (P := Tryz.prog) W 76 86 a n c 0 0 Tryz.underlying76
  go_enter Tryz.func49, Tryz.ntmps49
  go_wp2
  go_ret
  exact ⟨rfl, rfl⟩

theorem clonew_some (ad : Addr) (c n : Nat) (xs : List Value) (w : World) (hn : xs.length = n * 2) (hl : n ≤ 1000000) (h1 : ∀ u ∈ xs, u.oneCell' = true)
    (hc : ∀ j u, xs[j]? = some u → w.cell? (ad.add j) = some u) :
    Calls Tryz.prog 49 #[.slice (some ad) n c] w fun e w' => ∃ v, e = .returned v ∧ w'.ownsRow w.heap.size 86 2 v n xs ∧ Below w.heap.size w w' := by
  have hq := fun (W : World) (a : Option Addr) (n c : Nat) => Lib.run_eql_slice_nil (P := Tryz.prog) W 76 86 a n c 0 0 Tryz.underlying76
  obtain ⟨i0, hi, hz0, hz1, hz2⟩ := info_parts wr_info
  have HC := Lib.hid hc
  have H1 := Lib.hid h1
  have HN := Lib.hid hn
  clear hc h1 hn
  have HM : n ≤ maxLen := by unfold maxLen; omega
  go_enter Tryz.func49, Tryz.ntmps49
  go_wp2_with (at_builtin; refine wpList_append_own _ rfl _ _ _ rfl w.heap.size 86 i0 _ 2 32 Tryz.underlying76 hi hz0 hz1 hz2 rfl (by decide) (.slice (some ⟨w.heap.size, 0, none⟩) 0 0) 0 [] rfl (World.ownsRow_made w #[] 0 (Nat.le_refl _) (by unfold maxLen; omega) rfl) ad n c xs rfl HN.out (cells_alloc HC.out _) H1.out (by omega) (by omega) (by simp) ?_; intro v' w1 hown hg hnil)
  go_wp2
  go_ret
  refine ⟨v', rfl, by simpa using hown, ?_⟩
  exact ((Below.refl _ _).alloc (Nat.le_refl _) _).grown hg (by simp) (by simp [Value.ownBlock])

theorem clonew_any (A : Option Addr) (c n : Nat) (xs : List Value) (w : World) (h : w.ownsRow 0 86 2 (.slice A n c) n xs) (hl : n ≤ 1000000) (h1 : ∀ u ∈ xs, u.oneCell' = true) :
    Calls Tryz.prog 49 #[.slice A n c] w fun e w' => ∃ A' c', e = .returned (.slice A' n c') ∧ w'.ownsRow w.heap.size 86 2 (.slice A' n c') n xs ∧ Below w.heap.size w w' := by
  have h0 := h
  rcases h.2 with ⟨he, hn⟩ | ⟨g, cap, cur, he, _⟩
  · injection he with he1 he2 he3
    subst he1
    subst hn
    have hx : xs = [] := List.eq_nil_of_length_eq_zero (by simpa using h.1)
    subst hx
    refine (clonew_nil c w).mono ?_
    rintro e w' ⟨rfl, rfl⟩
    exact ⟨_, _, rfl, World.ownsRow_nil _ _ _ _, Below.refl _ _⟩
  · injection he with he1 _ _
    subst he1
    refine (clonew_some ⟨g, 0, none⟩ c n xs w h.1 hl h1 (h0.cells (g := g) rfl)).mono ?_
    rintro e w' ⟨v, rfl, ho, hb⟩
    obtain ⟨A', c', rfl⟩ := own_slice ho
    exact ⟨A', c', rfl, ho, hb⟩

/-- A copy: new blocks, the same bytes of the writes. -/
structure Copied (w : World) (k : Dk) (w' : World) (k' : Dk) : Prop where
  disk : DiskAt w' k'
  dat : k'.dat = k.dat
  fp : ∀ b ∈ k'.fp, w.heap.size ≤ b
  all : ∀ b ∈ k'.all, w.heap.size ≤ b ∨ (b ∈ k.all ∧ b ∉ k.fp)
  keeps : Keeps [] w w'

theorem copy_end {w w1 w2 w3 : World} {k : Dk} {s cs l cl : Nat} {q : Value} {p : Nat} (h : DiskAt w k) (hp : w.heap.size ≤ p)
    (hs : w3.ownsRow (w.heap.size + 1) 5 1 (.slice (some ⟨s, 0, none⟩) k.S.length cs) k.S.length (k.S.map bv)) (hl : w3.ownsRow (w.heap.size + 1) 5 1 (.slice (some ⟨l, 0, none⟩) k.L.length cl) k.L.length (k.L.map bv))
    (hq : w3.ownsRow (w.heap.size + 1) 86 2 q k.W.length (wcells k.W)) (hsl : s ≠ l) (hk : Keeps [] w w3)
    (hb : w3.heap[p]? = some (.cells #[.slice (some ⟨s, 0, none⟩) k.S.length cs, .slice (some ⟨l, 0, none⟩) k.L.length cl, q, .int .i64 (k.lim : Int), .int .i64 k.left, .int .i64 (k.done : Int)] 78 (0, 0))) :
    Copied w k w3 ⟨p, s, cs, l, cl, q, k.S, k.L, k.W, k.lim, k.left, k.done⟩ := by
  have hsw := (hs.lt s rfl).1
  have hlw := (hl.lt l rfl).1
  have hfp : ∀ b ∈ (⟨p, s, cs, l, cl, q, k.S, k.L, k.W, k.lim, k.left, k.done⟩ : Dk).fp, w.heap.size ≤ b := by
    intro b hb
    simp only [Dk.fp, List.mem_cons, Option.mem_toList] at hb
    rcases hb with rfl | rfl | rfl | hb
    · exact hp
    · omega
    · omega
    · have := (hq.lt b hb).1; omega
  refine ⟨⟨hb, hs.mono (Nat.zero_le _), hl.mono (Nat.zero_le _), hq.mono (Nat.zero_le _), hsl, h.len, h.pos, h.big, ?_, h.lim, h.lo, h.hi⟩, rfl, hfp, ?_, hk⟩
  · intro x hx
    obtain ⟨a1, a2, a3⟩ := h.fit x hx
    refine ⟨a1.grow hk, a2, fun b hb => ⟨Nat.lt_of_lt_of_le (a3 b hb).1 hk.size, fun hm => ?_⟩⟩
    have h1 := (a3 b hb).1
    have h2 := hfp b hm
    omega
  · intro b hb
    rcases List.mem_append.1 hb with hb | hb
    · exact .inl (hfp b hb)
    · right
      refine ⟨List.mem_append_right _ hb, ?_⟩
      obtain ⟨x, hx, hb⟩ := List.mem_filterMap.1 hb
      exact ((h.fit x hx).2.2 b hb).2

/-- What is known of the world while a copy is made: the old disk, the new struct's cells. -/
structure CopyAt (w : World) (k : Dk) (W : World) (cs : Array Value) : Prop where
  keeps : Keeps [] w W
  blk : W.heap[w.heap.size]? = some (.cells cs 78 (0, 0))

theorem CopyAt.set {w W W' : World} {k : Dk} {cs : Array Value} (h : CopyAt w k W cs) (hb : Below W.heap.size W W') (i : Nat) (u : Value) : CopyAt w k (W'.setCell ⟨w.heap.size, i, none⟩ u) (cs.setIfInBounds i u) :=
  ⟨(h.keeps.trans' (Keeps.of_below hb)).setCell (by simp) _, blk_set ((hb.block _ (lt_of_heap h.blk)).trans h.blk) i u⟩

theorem own_copy {w W W' : World} {k : Dk} {cs : Array Value} (h : CopyAt w k W cs) {e : TypeId} {z n : Nat} {v : Value} {xs : List Value} (ho : W'.ownsRow W.heap.size e z v n xs) (i : Nat) (u : Value) : (W'.setCell ⟨w.heap.size, i, none⟩ u).ownsRow (w.heap.size + 1) e z v n xs := by
  have hl := lt_of_heap h.blk
  refine own_keep (bs := [w.heap.size]) (ho.mono (by omega)) ((Keeps.refl _ _).setCell (by simp) _) (fun b hb => ?_)
  have := (ho.lt b hb).1
  simp
  omega

theorem own_on {w W W' : World} {k : Dk} {cs : Array Value} (h : CopyAt w k W cs) {e : TypeId} {z n : Nat} {v : Value} {xs : List Value} (ho : W.ownsRow (w.heap.size + 1) e z v n xs) (hb : Below W.heap.size W W') (i : Nat) (u : Value) : (W'.setCell ⟨w.heap.size, i, none⟩ u).ownsRow (w.heap.size + 1) e z v n xs := by
  refine own_keep (bs := [w.heap.size]) (own_keep (bs := []) ho (Keeps.of_below hb) (by simp)) ((Keeps.refl _ _).setCell (by simp) _) (fun b hb => ?_)
  have := (ho.lt b hb).1
  simp
  omega

set_option maxHeartbeats 1000000 in
theorem copy_any (k : Dk) (w : World) (h : DiskAt w k) (hW : k.W.length ≤ 1000000) :
    Calls Tryz.prog 29 #[.pointer (some ⟨k.p, 0, none⟩)] w fun e w' => ∃ k', e = .returned (.pointer (some ⟨k'.p, 0, none⟩)) ∧ Copied w k w' k' := by
  have c0 := h.c0
  have c1 := h.c1
  have c2 := h.c2
  have c3 := h.c3
  have c4 := h.c4
  have c5 := h.c5
  have hp := h.pos
  have hb := h.big
  have hpl := lt_of_heap h.blk
  obtain ⟨Aq, cq, hqv⟩ := own_slice h.wa
  rw [hqv] at c2
  have HQ := Lib.hid hqv
  have HL := Lib.hid h.len
  have HD := Lib.hid h
  clear h hqv
  go_enter Tryz.func29, Tryz.ntmps29
  go_wp2_with (first
    | (go_at_call 30; refine (missing_not _ _ _ _ _ c0 (by omega) (by omega)).mono ?_; rintro e w' ⟨rfl, rfl⟩))
  have h0 : CopyAt w k (w.alloc (.cells #[.slice (some ⟨k.s, 0, none⟩) k.S.length k.cs, .slice (some ⟨k.l, 0, none⟩) k.L.length k.cl, .slice Aq k.W.length cq, .int .i64 (k.lim : Int), .int .i64 k.left, .int .i64 (k.done : Int)] 78)) _ := ⟨(Keeps.refl [] w).alloc _, heap_alloc_new w _⟩
  have H0 := Lib.hid h0
  clear h0
  refine (another_any _ _ k.S _ (by omega) ((BytesAt.of_own HD.out.st).grow H0.out.keeps)).mono ?_
  rintro e w1 ⟨A1, n1, rfl, ho1, hb1⟩
  obtain ⟨s, cap1, hv1, _, _⟩ := ho1.form hp
  injection hv1 with hv1 _ hv1c
  subst hv1c
  subst hv1
  have HO1 := Lib.hid (own_copy H0.out ho1 0 (.slice (some ⟨s, 0, none⟩) k.S.length n1))
  have H1 := Lib.hid (H0.out.set hb1 0 (.slice (some ⟨s, 0, none⟩) k.S.length n1))
  have hblk1 := (hb1.block _ (lt_of_heap H0.out.blk)).trans H0.out.blk
  have x1 := cell_of_blk hblk1 0
  have y1 := free_of_blk hblk1 0
  have hd1 := HD.out.grow (H0.out.keeps.trans' (Keeps.of_below hb1))
  have z1 := hd1.c1
  have hne : (⟨w.heap.size, 0, none⟩ : Addr) ≠ ⟨k.p, 1, none⟩ := by intro e; injection e with e; omega
  have z1' := fun v => (World.cell?_setCell_other w1 ⟨w.heap.size, 0, none⟩ ⟨k.p, 1, none⟩ v hne).trans z1
  simp at x1
  clear hblk1 hd1 ho1 hb1 c1 hne z1
  go_wp2_with fail
  revert HO1 H1
  generalize w1.setCell ⟨w.heap.size, 0, none⟩ (.slice (some ⟨s, 0, none⟩) k.S.length n1) = W1
  intro HO1 H1
  clear x1 y1 z1'
  refine (another_any _ _ k.L _ (by have := HL.out; omega) ((BytesAt.of_own HD.out.la).grow H1.out.keeps)).mono ?_
  rintro e w2 ⟨A2, n2, rfl, ho2, hb2⟩
  obtain ⟨l, cap2, hv2, _, _⟩ := ho2.form (by have := HL.out; omega)
  injection hv2 with hv2 _ hv2c
  subst hv2c
  subst hv2
  have hsl : s ≠ l := by
    have h1 := (HO1.out.lt s rfl).2
    have h2 := (ho2.lt l rfl).1
    omega
  have HO2 := Lib.hid (own_copy H1.out ho2 1 (.slice (some ⟨l, 0, none⟩) k.L.length n2))
  have HO1' := Lib.hid (own_on H1.out HO1.out hb2 1 (.slice (some ⟨l, 0, none⟩) k.L.length n2))
  have H2 := Lib.hid (H1.out.set hb2 1 (.slice (some ⟨l, 0, none⟩) k.L.length n2))
  have hblk2 := (hb2.block _ (lt_of_heap H1.out.blk)).trans H1.out.blk
  have x2 := cell_of_blk hblk2 1
  have y2 := free_of_blk hblk2 1
  have hd2 := HD.out.grow (H1.out.keeps.trans' (Keeps.of_below hb2))
  have z2 := hd2.c2
  rw [HQ.out] at z2
  have hne : (⟨w.heap.size, 1, none⟩ : Addr) ≠ ⟨k.p, 2, none⟩ := by intro e; injection e with e; omega
  have z2' := fun v => (World.cell?_setCell_other w2 ⟨w.heap.size, 1, none⟩ ⟨k.p, 2, none⟩ v hne).trans z2
  simp at x2
  clear hblk2 hd2 ho2 hb2 c2 hne z2 HO1 H1 H0
  go_wp2_with fail
  revert HO2 HO1' H2
  generalize w2.setCell ⟨w.heap.size, 1, none⟩ (.slice (some ⟨l, 0, none⟩) k.L.length n2) = W2
  intro HO2 HO1' H2
  clear x2 y2 z2'
  have hq := (HD.out.grow H2.out.keeps).wa
  rw [HQ.out] at hq
  refine (clonew_any Aq cq k.W.length (wcells k.W) W2 hq hW (wcells_one HD.out)).mono ?_
  rintro e w3 ⟨A3, n3, rfl, ho3, hb3⟩
  have HO3 := Lib.hid (own_copy H2.out ho3 2 (.slice A3 k.W.length n3))
  have HO1'' := Lib.hid (own_on H2.out HO1'.out hb3 2 (.slice A3 k.W.length n3))
  have HO2'' := Lib.hid (own_on H2.out HO2.out hb3 2 (.slice A3 k.W.length n3))
  have H3 := Lib.hid (H2.out.set hb3 2 (.slice A3 k.W.length n3))
  have hblk3 := (hb3.block _ (lt_of_heap H2.out.blk)).trans H2.out.blk
  have x3 := cell_of_blk hblk3 2
  have y3 := free_of_blk hblk3 2
  simp at x3
  clear hblk3 ho3 hb3 hq
  go_wp2_with fail
  go_ret
  exact ⟨_, rfl, copy_end (w1 := w) (w2 := w) HD.out (Nat.le_refl _) HO1''.out HO2''.out HO3.out hsl H3.out.keeps (by simpa using H3.out.blk)⟩

end Go.Proofs.YthgpjlmdllihmaaGreat
