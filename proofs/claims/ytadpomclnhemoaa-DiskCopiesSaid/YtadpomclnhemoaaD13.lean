/- known: the statements' own example. -/
import Derived.Test.YtadpomclnhemoaaD12
namespace Go.Proofs.Ytadpomclnhemoaa
open Go.RowKit
set_option linter.unusedVariables false

theorem conv_bytes {w : World} {v : Value} {xs : List UInt8} (h : BytesAt w v xs) : (convert 29 9 v).run Try.prog w = .ok (.string ⟨xs.toArray⟩) w := by
  have h0 := h
  obtain ⟨A, c, rfl, h1, h2, h3⟩ := h
  rcases A with _ | a
  · have hx : xs = [] := by
      rcases Nat.eq_zero_or_pos xs.length with h | h
      · exact List.eq_nil_of_length_eq_zero h
      · obtain ⟨_, _, h, _⟩ := h3 h; cases h
    subst hx
    exact run_convert_bytes_nil w 29 5 Try.underlying29 Try.underlying5 _ _ 9 Try.underlying9
  · refine run_convert_bytes_back w 29 9 5 a c xs Try.underlying29 Try.underlying5 Try.underlying9 fun j hj => ?_
    exact h0.cells j _ (by simp [List.getElem?_eq_getElem hj, bv])

/-- Two bytes in a block of their own. -/
theorem two_at (w : World) (x y : UInt8) : BytesAt (w.alloc (.cells #[.int .u8 (x.toNat : Int), .int .u8 (y.toNat : Int)] 5)) (.slice (some ⟨w.heap.size, 0, none⟩) 2 2) [x, y] := by
  refine ⟨_, 2, rfl, Nat.le_refl _, by unfold maxLen; omega, fun _ => ⟨w.heap.size, 0, rfl, fun i u hu => ?_⟩⟩
  rw [Nat.zero_add, World.cell?_alloc_new]
  match i, hu with
  | 0, hu => simp at hu; subst hu; rfl
  | 1, hu => simp at hu; subst hu; rfl

theorem new4 (w : World) : Calls Try.prog 11 #[.int .i64 4] w fun e w' => ∃ k, e = .returned (.tuple #[.pointer (some ⟨k.p, 0, none⟩), .int .i64 0]) ∧ DiskAt w' k ∧ k.dat = ⟨[0, 0, 0, 0], [0, 0, 0, 0], [], 4, -1, 0⟩ ∧ (∀ b ∈ k.all, w.heap.size ≤ b) ∧ Keeps [] w w' := by
  refine (new_yes 4 w (by omega) (by omega)).mono ?_
  rintro e w' ⟨k, he, hd, h1, h2, h3, h4, h5, h6, h7, h8⟩
  exact ⟨k, he, hd, by simp [Dk.dat, h1, h2, h3, h4, h5, h6, List.replicate], h7, h8⟩

theorem dat_len {k : Dk} {d : Dat} (h : k.dat = d) : k.W.length = d.W.length := by rw [← h]; simp [Dk.dat]
theorem dat_S {k : Dk} {d : Dat} (h : k.dat = d) : k.S = d.S := by rw [← h]; rfl
theorem dat_lim {k : Dk} {d : Dat} (h : k.dat = d) : k.lim = d.lim := by rw [← h]; rfl
theorem dat_left {k : Dk} {d : Dat} (h : k.dat = d) : k.left = d.left := by rw [← h]; rfl
theorem dat_done {k : Dk} {d : Dat} (h : k.dat = d) : k.done = d.done := by rw [← h]; rfl

theorem write_dat (k : Dk) (d : Dat) (off : Nat) (B : Option Addr) (n c : Nat) (xs : List UInt8) (w : World) (h : DiskAt w k) (hd : k.dat = d) (hn : xs.length = n) (hv : BytesAt w (.slice B n c) xs) (h1 : off + n ≤ d.S.length) (h2 : off + n ≤ d.lim) (h3 : d.left ≠ 0) (h4 : d.W.length ≤ 1000000) (h5 : d.done < 4611686018427387904) :
    Calls Try.prog 17 #[.pointer (some ⟨k.p, 0, none⟩), .int .i64 (off : Int), .slice B n c] w fun e w' => e = .returned (.int .i64 0) ∧ ∃ k', Goes w k w' k' ∧ k'.dat = d.write off xs := by
  refine (write_yes k off B n c xs w h hn hv (by rw [dat_S hd]; exact h1) (by rw [dat_lim hd]; exact .inr h2) (by rw [dat_left hd]; exact h3) (by rw [dat_len hd]; exact h4) (by rw [dat_done hd]; exact h5)).mono ?_
  rintro e w' ⟨he, k', hg, hk, _⟩
  exact ⟨he, k', hg, by rw [hk, hd]⟩

theorem sync_dat (k : Dk) (d : Dat) (w : World) (h : DiskAt w k) (hd : k.dat = d) (h3 : d.left ≠ 0) (h4 : d.W.length ≤ 1000000) (h5 : d.done < 4611686018427387904) :
    Calls Try.prog 18 #[.pointer (some ⟨k.p, 0, none⟩)] w fun e w' => e = .returned (.int .i64 0) ∧ ∃ k', Goes w k w' k' ∧ k'.dat = d.sync := by
  refine (sync_yes k w h (by rw [dat_left hd]; exact h3) (by rw [dat_len hd]; exact h4) (by rw [dat_done hd]; exact h5)).mono ?_
  rintro e w' ⟨he, k', hg, hk, _⟩
  exact ⟨he, k', hg, by rw [hk, hd]⟩

theorem crash_dat (k : Dk) (d : Dat) (keep torn : Int) (w : World) (h : DiskAt w k) (hd : k.dat = d) (hk : -9223372036854775808 ≤ keep ∧ keep ≤ 9223372036854775807) (ht : -9223372036854775808 ≤ torn ∧ torn ≤ 9223372036854775807) (hW : d.W.length ≤ 1000000) :
    Calls Try.prog 21 #[.pointer (some ⟨k.p, 0, none⟩), .agg #[.int .i64 keep, .int .i64 torn]] w fun e w' => ∃ k', e = .returned (.tuple #[.pointer (some ⟨k'.p, 0, none⟩), .int .i64 0]) ∧ DiskAt w' k' ∧ k'.dat = d.crash keep torn ∧ (∀ b ∈ k'.all, w.heap.size ≤ b) ∧ Keeps [] w w' := by
  refine (crash_yes k keep torn w h hk ht (by rw [dat_len hd]; exact hW)).mono ?_
  rintro e w' ⟨k', he, h1, h2, h3, h4⟩
  exact ⟨k', he, h1, by rw [h2, hd], h3, h4⟩

theorem read_dat (k : Dk) (d : Dat) (off n : Nat) (xs : List UInt8) (w : World) (h : DiskAt w k) (hd : k.dat = d) (hf : off + n ≤ d.S.length) (hx : (d.S.drop off).take n = xs) :
    Calls Try.prog 15 #[.pointer (some ⟨k.p, 0, none⟩), .int .i64 (off : Int), .int .i64 (n : Int)] w fun e w' => ∃ A c, e = .returned (.tuple #[.slice A n c, .int .i64 0]) ∧ BytesAt w' (.slice A n c) xs ∧ Below w.heap.size w w' := by
  refine (read_yes k off n w h (by rw [dat_S hd]; exact hf)).mono ?_
  rintro e w' ⟨A, c, he, ho, hb⟩
  have hl : xs.length = n := by rw [← hx]; simp; omega
  rw [dat_S hd, hx] at ho
  refine ⟨A, c, he, ?_, hb⟩
  subst hl
  exact BytesAt.of_own ho

theorem Goes.grow {w w' : World} {k k' : Dk} {bs : List Nat} (h : Goes w k w' k') (hb : ∀ b ∈ k.all, w.heap.size ≤ b ∨ b ∈ bs) : Keeps bs w w' :=
  h.keeps.mono fun x hx => by
    rcases hb x (fp_sub hx) with h | h
    · exact .inr h
    · exact .inl h

/-- Beginning at a world, blocks that are all newer stay so. -/
theorem Goes.newer {w w' : World} {k k' : Dk} {B : Nat} (h : Goes w k w' k') (hB : B ≤ w.heap.size) (hb : ∀ b ∈ k.all, B ≤ b) : ∀ b ∈ k'.all, B ≤ b := by
  intro b hm
  rcases h.all b hm with h' | h'
  · exact hb b h'
  · omega

set_option maxHeartbeats 1000000 in
theorem known_any (w : World) : Calls Try.prog 10 #[] w fun e w' => e = .returned (.bool true) ∧ Below w.heap.size w w' := by
  go_enter Try.func10, Try.ntmps10
  go_wp2_with fail
  refine (new4 w).mono ?_
  rintro e w1 ⟨k0, rfl, hd0, hk0, hn0, hb0⟩
  have HD0 := Lib.hid hd0
  have HK0 := Lib.hid hk0
  have HN0 := Lib.hid hn0
  have HB0 := Lib.hid hb0
  clear hd0 hk0 hn0 hb0
  go_wp2_with fail
  refine (write_dat k0 _ 0 _ 2 2 [1, 2] _ (HD0.out.grow ((Keeps.refl [] w1).alloc _)) HK0.out rfl (two_at w1 1 2) (by simp) (by simp) (by simp) (by simp) (by simp)).mono ?_
  rintro e w2 ⟨rfl, k1, hg1, hk1⟩
  have hz1 := HB0.out.size
  have K1 := Lib.hid ((HB0.out.trans' ((Keeps.refl [] w1).alloc (.cells #[.int .u8 1, .int .u8 2] 5))).trans (hg1.keeps) (fun x hx => .inr (HN0.out x (fp_sub hx))))
  have N1 := Lib.hid (hg1.newer (B := w.heap.size) (by simp; omega) HN0.out)
  have HS := Lib.hid (sync_dat k1 _ w2 hg1.disk hk1 (by simp [Dat.write, lessOne]) (by simp [Dat.write]) (by simp [Dat.write]))
  rw [hg1.p] at HS
  have P1 := Lib.hid hg1.p
  clear hg1 hk1
  go_wp2_with fail
  refine HS.out.mono ?_
  rintro e w3 ⟨rfl, k2, hg2, hk2⟩
  have hz2 := K1.out.size
  have K2 := Lib.hid (K1.out.trans hg2.keeps (fun x hx => .inr (N1.out x (fp_sub hx))))
  have N2 := Lib.hid (hg2.newer (B := w.heap.size) hz2 N1.out)
  have HW := Lib.hid (write_dat k2 _ 1 _ 2 2 [8, 9] _ (hg2.disk.grow ((Keeps.refl [] w3).alloc (.cells #[.int .u8 8, .int .u8 9] 5))) hk2 rfl (two_at w3 8 9) (by simp [Dat.sync, Dat.write, laid]) (by simp [Dat.sync, Dat.write]) (by simp [Dat.sync, Dat.write, lessOne]) (by simp [Dat.sync]) (by simp [Dat.sync, Dat.write]))
  rw [hg2.p, P1.out] at HW
  have P2 := Lib.hid (hg2.p.trans P1.out)
  clear hg2 hk2 HS P1
  go_wp2_with fail
  refine HW.out.mono ?_
  rintro e w4 ⟨rfl, k3, hg3, hk3⟩
  have hz3 := K2.out.size
  have K3 := Lib.hid ((K2.out.trans' ((Keeps.refl [] w3).alloc (.cells #[.int .u8 8, .int .u8 9] 5))).trans (hg3.keeps) (fun x hx => .inr (N2.out x (fp_sub hx))))
  have N3 := Lib.hid (hg3.newer (B := w.heap.size) (by simp; omega) N2.out)
  have HC := Lib.hid (crash_dat k3 _ 0 1 w4 hg3.disk hk3 (by omega) (by omega) (by simp [Dat.sync, Dat.write]))
  rw [hg3.p, P2.out] at HC
  clear hg3 hk3 HW P2
  go_wp2_with fail
  refine HC.out.mono ?_
  rintro e w5 ⟨k4, rfl, hd4, hk4, hn4, hb4⟩
  have K4 := Lib.hid (K3.out.trans' hb4)
  have HR := Lib.hid (read_dat k4 _ 0 4 [1, 8, 0, 0] w5 hd4 hk4 (by simp [Dat.crash, tornOf, keepOf, Dat.sync, Dat.write, layAll, laid]) (by decide))
  clear hd4 hk4 hn4 hb4 HC
  go_wp2_with fail
  refine HR.out.mono ?_
  rintro e w6 ⟨A, c, rfl, hb6, hw6⟩
  have hcv := conv_bytes hb6
  have hz4 := K4.out.size
  have K5 := Lib.hid (K4.out.trans' (Keeps.of_below hw6))
  clear hb6 hw6 HR
  go_wp2
  go_ret
  exact ⟨rfl, K5.out.below (Nat.le_refl _) (by simp)⟩

end Go.Proofs.Ytadpomclnhemoaa
