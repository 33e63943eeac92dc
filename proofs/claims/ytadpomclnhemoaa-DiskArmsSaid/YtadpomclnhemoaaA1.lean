/- DiskArms: the walk. -/
import Derived.Test.YtadpomclnhemoaaD17
namespace Go.Proofs.Ytadpomclnhemoaa
open Go.RowKit
set_option linter.unusedVariables false

/-- How many steps are left behind i steps of one armed with n. -/
def leftAt (n : Int) (i : Nat) : Int := if n < 0 then -1 else if (i : Int) < n then n - i else 0

theorem leftAt_zero (n : Int) : leftAt n 0 = max n (-1) := by
  unfold leftAt
  split
  · omega
  · split <;> omega
theorem leftAt_more {n : Int} {i : Nat} (h : leftAt n i ≠ 0) : lessOne (leftAt n i) = leftAt n (i + 1) := by
  unfold leftAt at h ⊢
  unfold lessOne
  split
  · simp
  · rename_i h0
    rw [if_neg h0] at h
    by_cases h1 : (i : Int) < n
    · rw [if_pos h1, if_pos (by omega)]
      by_cases h2 : ((i + 1 : Nat) : Int) < n
      · rw [if_pos h2]; omega
      · rw [if_neg h2]; omega
    · rw [if_neg h1] at h; exact absurd rfl h
theorem leftAt_stop {n : Int} {i : Nat} (h : leftAt n i = 0) : leftAt n (i + 1) = 0 := by
  unfold leftAt at h ⊢
  split at h
  · omega
  · rename_i h0
    rw [if_neg h0]
    split at h
    · omega
    · rw [if_neg (by omega)]
theorem leftAt_iff {n : Int} {i : Nat} : leftAt n i ≠ 0 ↔ (n < 0 ∨ (i : Int) < n) := by
  unfold leftAt
  constructor
  · intro h
    by_cases h0 : n < 0
    · exact .inl h0
    · rw [if_neg h0] at h
      by_cases h1 : (i : Int) < n
      · exact .inr h1
      · rw [if_neg h1] at h; exact absurd rfl h
  · rintro (h | h)
    · rw [if_pos h]; omega
    · split
      · omega
      · first | omega | (rw [if_pos h]; omega)

theorem sameWs_self (W : List (Nat × List UInt8)) : sameWs W W = true := by
  induction W with
  | nil => rfl
  | cons x W ih => simp [sameWs, sameW, ih]
theorem sameDat_self (d : Dat) : sameDat d d = true := by simp [sameDat, sameWs_self]

/-- What a round of DiskArms finds: a disk of that size with so many steps left, all in new blocks. -/
structure ArmInv (w : World) (size : Nat) (n : Int) (i : Nat) (wr : World) (k : Dk) : Prop where
  disk : DiskAt wr k
  new : ∀ b ∈ k.all, w.heap.size ≤ b
  keeps : Keeps [] w wr
  many : k.S.length = size
  lim : k.lim = size
  left : k.left = leftAt n i
  wait : k.W.length ≤ i
  done : k.done ≤ i

theorem ArmInv.goes {w wr w1 : World} {size : Nat} {n : Int} {i : Nat} {k k' : Dk} (h : ArmInv w size n i wr k) (hg : Goes wr k w1 k') (h1 : k'.S.length = size) (h2 : k'.lim = size) (h3 : k'.left = leftAt n (i + 1)) (h4 : k'.W.length ≤ i + 1) (h5 : k'.done ≤ i + 1) : ArmInv w size n (i + 1) w1 k' :=
  ⟨hg.disk, hg.newer h.keeps.size h.new, h.keeps.trans hg.keeps (fun x hx => .inr (h.new x (fp_sub hx))), h1, h2, h3, h4, h5⟩

theorem ArmInv.grow {w wr w1 : World} {size : Nat} {n : Int} {i : Nat} {k : Dk} (h : ArmInv w size n i wr k) (hk : Keeps [] wr w1) : ArmInv w size n i w1 k :=
  ⟨h.disk.grow hk, h.new, h.keeps.trans' hk, h.many, h.lim, h.left, h.wait, h.done⟩

/-- A copy is one, too. -/
theorem ArmInv.copy {w wr w1 : World} {size : Nat} {n : Int} {i : Nat} {k k' : Dk} (h : ArmInv w size n i wr k) (hc : Copied wr k w1 k') : ArmInv w size n i w1 k' := by
  have hsz := h.keeps.size
  refine ⟨hc.disk, fun b hb => ?_, h.keeps.trans' hc.keeps, ?_, ?_, ?_, ?_, ?_⟩
  · rcases hc.all b hb with h1 | h1
    · omega
    · exact h.new b h1.1
  · rw [dat_S hc.dat]; exact h.many
  · rw [dat_lim hc.dat]; exact h.lim
  · rw [dat_left hc.dat]; exact h.left
  · rw [dat_len hc.dat]; simpa [Dk.dat] using h.wait
  · rw [dat_done hc.dat]; exact h.done

theorem ArmInv.stop {w wr : World} {size : Nat} {n : Int} {i : Nat} {k : Dk} (h : ArmInv w size n i wr k) (hl : k.left = 0) : ArmInv w size n (i + 1) wr k :=
  ⟨h.disk, h.new, h.keeps, h.many, h.lim, by rw [hl]; exact (leftAt_stop (by rw [← h.left]; exact hl)).symm, by have := h.wait; omega, by have := h.done; omega⟩

/-- The copy made ahead stays while the disk itself goes on. -/
theorem kept_copy {wr w1 w2 : World} {k kw k' : Dk} (hd : DiskAt wr k) (hc : Copied wr k w1 kw) (hg : Goes w1 k w2 k') : DiskAt w2 kw := by
  refine hc.disk.keep hg.keeps fun b hb hm => ?_
  rcases hc.all b hb with h1 | h1
  · have := hd.lt b (fp_sub hm); omega
  · exact h1.2 hm

theorem ArmInv.cell {w wr : World} {size : Nat} {n : Int} {i : Nat} {k : Dk} (h : ArmInv w size n i wr k) {p : Addr} {v : Value} (hc : w.cell? p = some v) : wr.cell? p = some v := (h.keeps.cell (lt_of_cell hc) (by simp)).trans hc

theorem arm_write {w wr : World} {size : Nat} {n : Int} {i lb cb : Nat} {k : Dk} {Ab : Option Addr} {bs : List UInt8} (h : ArmInv w size n i wr k) (hB : BytesAt w (.slice Ab lb cb) bs) (hb : bs.length = lb) (hl : k.left ≠ 0) (hi : i ≤ 1000) (hlb : lb ≤ size) :
    Calls Try.prog 17 #[.pointer (some ⟨k.p, 0, none⟩), .int .i64 0, .slice Ab lb cb] wr fun e w' => e = .returned (.int .i64 0) ∧ ∃ k', k'.p = k.p ∧ Goes wr k w' k' ∧ ArmInv w size n (i + 1) w' k' := by
  have h1 := h.many
  have h2 := h.lim
  have h3 := h.wait
  have h4 := h.done
  refine (write_yes k 0 Ab lb cb bs wr h.disk hb (hB.grow h.keeps) (by omega) (by omega) hl (by omega) (by omega)).mono ?_
  rintro e w' ⟨rfl, k', hg, hd, hw⟩
  refine ⟨rfl, k', hg.p, hg, h.goes hg ?_ ?_ ?_ (by omega) ?_⟩
  · rw [dat_S hd]
    show (laid k.S 0 bs).length = size
    rw [length_laid (by omega)]
    exact h1
  · rw [dat_lim hd]; exact h2
  · rw [dat_left hd]
    show lessOne k.left = _
    rw [h.left] at hl ⊢
    exact leftAt_more hl
  · rw [dat_done hd]
    show k.done + 1 ≤ i + 1
    omega

theorem arm_sync {w wr : World} {size : Nat} {n : Int} {i : Nat} {k : Dk} (h : ArmInv w size n i wr k) (hl : k.left ≠ 0) (hi : i ≤ 1000) :
    Calls Try.prog 18 #[.pointer (some ⟨k.p, 0, none⟩)] wr fun e w' => e = .returned (.int .i64 0) ∧ ∃ k', k'.p = k.p ∧ ArmInv w size n (i + 1) w' k' ∧ k'.W.length = 0 := by
  have h1 := h.many
  have h2 := h.lim
  have h3 := h.wait
  have h4 := h.done
  refine (sync_yes k wr h.disk hl (by omega) (by omega)).mono ?_
  rintro e w' ⟨rfl, k', hg, hd, hw⟩
  refine ⟨rfl, k', hg.p, h.goes hg ?_ ?_ ?_ (by omega) ?_, hw⟩
  · rw [dat_S hd]; exact h1
  · rw [dat_lim hd]; exact h2
  · rw [dat_left hd]
    show lessOne k.left = _
    rw [h.left] at hl ⊢
    exact leftAt_more hl
  · rw [dat_done hd]
    show k.done + 1 ≤ i + 1
    omega

theorem arm_new {w w1 w2 : World} {size : Nat} {n : Int} {k : Dk} (hk : Keeps [] w w1) (hd : DiskAt w2 (k.nums k.lim (max n (-1)) k.done)) (hk2 : Keeps [k.p] w1 w2) (hS : k.S = List.replicate size 0) (hW : k.W = []) (hl : k.lim = size) (h0 : k.done = 0) (hn : ∀ b ∈ k.all, w.heap.size ≤ b) : ArmInv w size n 0 w2 (k.nums k.lim (max n (-1)) k.done) :=
  ⟨hd, hn, hk.trans hk2 (fun x hx => by rw [List.mem_singleton.1 hx]; exact .inr (hn _ (fp_sub (by simp [Dk.fp])))), by simp [Dk.nums, hS], hl, (leftAt_zero n).symm, by simp [Dk.nums, hW], by simp [Dk.nums, h0]⟩

theorem same_is (k m : Dk) (w : World) (h : DiskAt w k) (g : DiskAt w m) (hW : k.W.length ≤ 1000000) (hd : k.dat = m.dat) :
    Calls Try.prog 24 #[.pointer (some ⟨k.p, 0, none⟩), .pointer (some ⟨m.p, 0, none⟩)] w fun e w' => e = .returned (.bool true) ∧ Below w.heap.size w w' := by
  have hl : m.W.length = k.W.length := by rw [dat_len hd]; simp [Dk.dat]
  have := same_any k m w h g hW (by omega)
  rw [hd, sameDat_self] at this
  exact this

/-- The copy ahead, once the disk itself has gone on. -/
theorem arm_was {w wr w1 w2 : World} {size : Nat} {n : Int} {i i' : Nat} {k kw k' : Dk} (h : ArmInv w size n i wr k) (hc : Copied wr k w1 kw) (hg : Goes w1 k w2 k') (h2 : ArmInv w size n i' w2 k') : ArmInv w size n i w2 kw := by
  have h1 := h.copy hc
  exact ⟨kept_copy h.disk hc hg, h1.new, h2.keeps, h1.many, h1.lim, h1.left, h1.wait, h1.done⟩

theorem arm_again {w wr w2 : World} {size : Nat} {n : Int} {i : Nat} {k : Dk} (h : ArmInv w size n i wr k) (hd : DiskAt w2 (k.nums k.lim (max (-1) (-1)) k.done)) (hk : Keeps [k.p] wr w2) : ArmInv w size (-1) i w2 (k.nums k.lim (max (-1) (-1)) k.done) :=
  ⟨hd, h.new, h.keeps.trans hk (fun x hx => by rw [List.mem_singleton.1 hx]; exact .inr (h.new _ (fp_sub (by simp [Dk.fp])))), h.many, h.lim, by simp [Dk.nums, leftAt], h.wait, h.done⟩

theorem arm_neg {w wr : World} {size : Nat} {i : Nat} {k : Dk} (h : ArmInv w size (-1) i wr k) : k.left ≠ 0 := by rw [h.left]; simp [leftAt]

set_option maxRecDepth 100000 in
set_option maxHeartbeats 4000000 in
theorem diskarms_main (size : Nat) (n : Int) (As Ab : Option Addr) (ls cs lb cb : Nat) (ss : List Bool) (bs : List UInt8) (w : World) (h1 : 20 ≤ size) (h2 : size ≤ 300) (h3 : -5 ≤ n) (h4 : n ≤ 30) (h5 : ls ≤ 40) (h6 : lb ≤ 20) (hs : ss.length = ls) (hb : bs.length = lb)
    (hS : ∀ i b, ss[i]? = some b → ∃ ad, As = some ad ∧ w.cell? (ad.add i) = some (.bool b)) (hB : BytesAt w (.slice Ab lb cb) bs) :
    Calls Try.prog 8 #[.int .i64 (size : Int), .int .i64 n, .agg #[.slice As ls cs, .slice Ab lb cb]] w fun e w' => e = .returned (.bool true) ∧ Below w.heap.size w w' := by
  have i1 : ¬ (size : Int) < 20 := by omega
  have i2 : ¬ (300 : Int) < size := by omega
  have i3 : ¬ n < -5 := by omega
  have i4 : ¬ 30 < n := by omega
  have i5 : ¬ (40 : Int) < ls := by omega
  have i6 : ¬ (20 : Int) < lb := by omega
  have HS := Lib.hid hS
  have HB := Lib.hid hB
  have HSL := Lib.hid hs
  have HBL := Lib.hid hb
  clear hS hB hs hb
  go_enter Try.func8, Try.ntmps8
  go_wp2
  go_region
  all_goals
    go_wp2_with fail
  have hk0 : Keeps [] w (w.alloc (.cells #[.slice As ls cs, .slice Ab lb cb] 65)).drew := ((Keeps.refl [] w).alloc _).drew
  refine (new_yes size _ (by omega) (by omega)).mono ?_
  rintro e w1 ⟨k, rfl, hd1, hS1, hL1, hW1, hl1, hf1, ho1, hn1, hk1⟩
  have ARM := Lib.hid (arm_any k n w1 hd1 (by omega))
  have HA := fun (w2 : World) (hd : DiskAt w2 (k.nums k.lim (max n (-1)) k.done)) (hk2 : Keeps [k.p] w1 w2) => arm_new (n := n) (hk0.trans' hk1) hd hk2 hS1 hW1 hl1 ho1 (fun b hb => Nat.le_trans hk0.size (hn1 b hb))
  have HAA := Lib.hid HA
  clear hk0 hd1 hS1 hL1 hW1 hl1 hf1 ho1 hn1 hk1 HA
  go_wp2_with fail
  refine ARM.out.mono ?_
  rintro e w2 ⟨rfl, hd2, hk2⟩
  have HI := Lib.hid (HAA.out w2 hd2 hk2)
  have hpp : (k.nums k.lim (max n (-1)) k.done).p = k.p := rfl
  rw [← hpp]
  revert HI
  generalize k.nums k.lim (max n (-1)) k.done = k0
  intro HI
  clear hd2 hk2 ARM HAA hpp
  go_wp2_with fail
  go_loopw [9, 11] (fun d i wr => ∃ (j : Nat) (k : Dk), d = .pointer (some ⟨k.p, 0, none⟩) ∧ i = .int .i64 (j : Int) ∧ j ≤ ls ∧ Hid (ArmInv w size n j wr k)) (fun _ i _ => ls - (intOf i).toNat)
  case atStart => exact ⟨0, k0, rfl, rfl, Nat.zero_le _, HI⟩
  case round =>
    obtain ⟨j, k, rfl, rfl, hj, HJ⟩ := hrel
    by_cases hlt : j < ls
    · obtain ⟨bj, hbj⟩ : ∃ b, ss[j]? = some b := ⟨ss[j]'(by have := HSL.out; omega), List.getElem?_eq_getElem _⟩
      obtain ⟨ad, hAs, hcell⟩ := HS.out j bj hbj
      subst hAs
      have hw1 := HJ.out.wait
      have CP := Lib.hid (copy_any k wr HJ.out.disk (by omega))
      have hleft := HJ.out.left
      clear hbj
      by_cases hz : leftAt n j = 0
      · have hno : ¬ (n < 0 ∨ (j : Int) < n) := fun hh => (leftAt_iff.2 hh) hz
        have hno1 : ¬ n < 0 := fun hh => hno (.inl hh)
        have hno2 : ¬ (j : Int) < n := fun hh => hno (.inr hh)
        have HZ := Lib.hid (hleft.trans hz)
        clear hno hz hleft
        go_wp2_with fail
        refine CP.out.mono ?_
        rintro e w1 ⟨kw, rfl, hc⟩
        have HC := Lib.hid hc
        have H1 := Lib.hid (HJ.out.grow hc.keeps)
        have hm1 := H1.out.many
        have hm2 := H1.out.lim
        have WS := Lib.hid (write_stop k 0 Ab lb cb w1 H1.out.disk (by omega) (by omega) HZ.out)
        clear hc CP hm1 hm2
        go_wp2_with fail
        refine WS.out.mono ?_
        rintro e w' ⟨rfl, rfl⟩
        have hcell1 := H1.out.cell hcell
        cases bj with
        | false =>
          have SM := Lib.hid (same_is k kw w1 H1.out.disk HC.out.disk (by omega) HC.out.dat.symm)
          clear WS
          go_wp2_with fail
          refine SM.out.mono ?_
          rintro e w2 ⟨rfl, hb2⟩
          have H2 := Lib.hid ((H1.out.grow (Keeps.of_below hb2)).stop HZ.out)
          clear hb2 SM
          go_wp2_with fail
          go_roundw
          case rel => exact ⟨j + 1, k, rfl, by go_num, by omega, H2⟩
          case measure => simp [intOf]; omega
        | true =>
          have HW := Lib.hid (HJ.out.copy HC.out)
          have hw2 := HW.out.wait
          have CP := Lib.hid (copy_any kw w1 HW.out.disk (by omega))
          clear WS
          go_wp2_with fail
          refine CP.out.mono ?_
          rintro e w3 ⟨kc, rfl, hc3⟩
          have H3 := Lib.hid (HW.out.copy hc3)
          have hz3 : kc.left = 0 := by rw [H3.out.left, ← HJ.out.left]; exact HZ.out
          have ST := Lib.hid (sync_stop kc w3 H3.out.disk hz3)
          have HC3 := Lib.hid hc3
          have HZ3 := Lib.hid hz3
          clear hc3 CP hz3
          go_wp2_with fail
          refine ST.out.mono ?_
          rintro e w4 ⟨rfl, hk4⟩
          have H4 := Lib.hid (H3.out.grow hk4)
          have hw4 := H4.out.wait
          have SM := Lib.hid (same_is kc kw w4 H4.out.disk ((HC.out.disk.grow HC3.out.keeps).grow hk4) (by omega) HC3.out.dat)
          clear hk4 ST
          go_wp2_with fail
          refine SM.out.mono ?_
          rintro e w5 ⟨rfl, hb5⟩
          have H5 := Lib.hid ((H4.out.grow (Keeps.of_below hb5)).stop HZ3.out)
          clear hb5 SM
          go_wp2_with fail
          go_roundw
          case rel => exact ⟨j + 1, kc, rfl, by go_num, by omega, H5⟩
          case measure => simp [intOf]; omega
      · have hor := leftAt_iff.1 hz
        have HZ : Hid (k.left ≠ 0) := by show k.left ≠ 0; rw [hleft]; exact hz
        clear hz hleft
        by_cases hneg : n < 0
        all_goals
          have hjn : ¬ n < 0 → (j : Int) < n := fun hh => hor.resolve_left hh
          first | have hjn' := hjn hneg | skip
          clear hor hjn
          go_wp2_with fail
          refine CP.out.mono ?_
          rintro e w1 ⟨kw, rfl, hc⟩
          have HC := Lib.hid hc
          have H1 := Lib.hid (HJ.out.grow hc.keeps)
          have WS := Lib.hid (arm_write H1.out HB.out HBL.out HZ.out (by omega) (by omega))
          clear hc CP
          go_wp2_with fail
          refine WS.out.mono ?_
          rintro e w2 ⟨rfl, k2, hp2, hg2, hI2⟩
          have HP2 := Lib.hid hp2
          have HG2 := Lib.hid hg2
          have HI2 := Lib.hid hI2
          clear hp2 hg2 hI2 WS
          have hcell1 := HI2.out.cell hcell
          cases bj with
          | false =>
            go_wp2_with fail
            go_roundw
            case rel => exact ⟨j + 1, k2, by rw [HP2.out], by go_num, by omega, HI2⟩
            case measure => simp [intOf]; omega
          | true =>
            have HW := Lib.hid (arm_was HJ.out HC.out HG2.out HI2.out)
            have hw2 := HW.out.wait
            have CP := Lib.hid (copy_any kw w2 HW.out.disk (by omega))
            go_wp2_with fail
            refine CP.out.mono ?_
            rintro e w3 ⟨kc, rfl, hc3⟩
            have H3 := Lib.hid (HW.out.copy hc3)
            have hz3 : kc.left ≠ 0 := by rw [H3.out.left, ← HJ.out.left]; exact HZ.out
            have ST := Lib.hid (arm_sync H3.out hz3 (by omega))
            clear hc3 CP hz3
            go_wp2_with fail
            refine ST.out.mono ?_
            rintro e w4 ⟨rfl, k4, hp4, hI4, _⟩
            have HP4 := Lib.hid hp4
            have HI4 := Lib.hid hI4
            clear hp4 hI4 ST
            go_wp2_with fail
            go_roundw
            case rel => exact ⟨j + 1, k4, by rw [HP4.out], by go_num, by omega, HI4⟩
            case measure => simp [intOf]; omega
    · have AR := Lib.hid (arm_any k (-1) wr HJ.out.disk (by omega))
      go_wp2_with fail
      refine AR.out.mono ?_
      rintro e w2 ⟨rfl, hd2, hk2⟩
      have H2 := Lib.hid (arm_again HJ.out hd2 hk2)
      have WS := Lib.hid (arm_write H2.out HB.out HBL.out (arm_neg H2.out) (by omega) (by omega))
      rw [show (k.nums k.lim (max (-1) (-1)) k.done).p = k.p from rfl] at WS
      clear hd2 hk2 AR
      go_wp2_with fail
      refine WS.out.mono ?_
      rintro e w3 ⟨rfl, k3, hp3, hg3, hI3⟩
      have ST := Lib.hid (arm_sync hI3 (arm_neg hI3) (by omega))
      rw [hp3] at ST
      have HP3 := Lib.hid hp3
      clear hp3 hg3 hI3 WS
      go_wp2_with fail
      refine ST.out.mono ?_
      rintro e w4 ⟨rfl, k4, hp4, hI4, hw4⟩
      obtain ⟨Aq, cq, hqv⟩ := own_slice hI4.disk.wa
      have q2 := hI4.disk.c2
      rw [hqv, hw4] at q2
      have WT := Lib.hid (waits_any k4.p _ _ _ _ _ _ w4 hI4.disk.c0 q2 hI4.disk.pos (by have := hI4.disk.big; omega))
      rw [hp4] at WT
      have HI4 := Lib.hid hI4
      clear hp4 hI4 hw4 ST q2 hqv
      go_wp2_with fail
      refine WT.out.mono ?_
      rintro e w' ⟨rfl, rfl⟩
      go_wp2_with fail
      refine (known_any _).mono ?_
      rintro e w5 ⟨rfl, hb5⟩
      have HK := Lib.hid (HI4.out.keeps.trans' (Keeps.of_below hb5))
      clear hb5 WT
      go_wp2
      go_ret
      exact ⟨rfl, HK.out.below (Nat.le_refl _) (by simp)⟩

end Go.Proofs.Ytadpomclnhemoaa
