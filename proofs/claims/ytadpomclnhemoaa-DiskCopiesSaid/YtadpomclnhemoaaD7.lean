/- Write: what it refuses; what stands, and waits, behind it. -/
import Derived.Test.YtadpomclnhemoaaD6
namespace Go.Proofs.Ytadpomclnhemoaa
open Go.RowKit
set_option linter.unusedVariables false

/-- What a disk is, memory left aside. -/
structure Dat where
  S : List UInt8
  L : List UInt8
  W : List (Nat × List UInt8)
  lim : Nat
  left : Int
  done : Nat

def Dk.dat (k : Dk) : Dat := ⟨k.S, k.L, k.W.map fun x => (x.off, x.xs), k.lim, k.left, k.done⟩
def Dat.write (d : Dat) (off : Nat) (xs : List UInt8) : Dat := ⟨laid d.S off xs, d.L, d.W ++ [(off, xs)], d.lim, lessOne d.left, d.done + 1⟩

/-- A call of a disk went well: the same pointer, its own blocks or new ones, nothing else turned. -/
structure Goes (w : World) (k : Dk) (w' : World) (k' : Dk) : Prop where
  disk : DiskAt w' k'
  p : k'.p = k.p
  fp : ∀ b ∈ k'.fp, b ∈ k.fp ∨ w.heap.size ≤ b
  all : ∀ b ∈ k'.all, b ∈ k.all ∨ w.heap.size ≤ b
  keeps : Keeps k.fp w w'

theorem fresh_not_fp {w : World} {k : Dk} (h : DiskAt w k) {b : Nat} (hb : w.heap.size ≤ b) : b ∉ k.fp := fun hm => by have := h.lt b (fp_sub hm); omega

theorem write_end {w w1 w2 w3 : World} {k : Dk} {off : Nat} {v q : Value} {xs : List UInt8} (h : DiskAt w k) (h1 : Below w.heap.size w w1) (hv : ∀ b, v.ownBlock = some b → w.heap.size ≤ b)
    (hq : q.ownBlock = k.q.ownBlock ∨ ∃ b, q.ownBlock = some b ∧ w1.heap.size ≤ b) (hk2 : Keeps k.fp w1 w2)
    (h3 : DiskAt w3 (((k.stands (laid k.S off xs)).more q ⟨off, v, xs⟩).nums k.lim (lessOne k.left) (k.done + 1))) (hk3 : Keeps [k.p] w2 w3) :
    Goes w k w3 (((k.stands (laid k.S off xs)).more q ⟨off, v, xs⟩).nums k.lim (lessOne k.left) (k.done + 1)) := by
  have hsz := h1.size
  have hfp : ∀ b ∈ (((k.stands (laid k.S off xs)).more q ⟨off, v, xs⟩).nums k.lim (lessOne k.left) (k.done + 1)).fp, b ∈ k.fp ∨ w.heap.size ≤ b := by
    intro b hb
    simp only [Dk.fp, Dk.more, Dk.stands, Dk.nums, List.mem_cons, Option.mem_toList] at hb ⊢
    rcases hb with hb | hb | hb | hb
    · exact .inl (.inl hb)
    · exact .inl (.inr (.inl hb))
    · exact .inl (.inr (.inr (.inl hb)))
    · rcases hq with hq | ⟨b', hq, hl⟩
      · exact .inl (.inr (.inr (.inr (by rw [← hq]; exact hb))))
      · rw [hq] at hb; injection hb with hb; right; omega
  refine ⟨h3, rfl, hfp, ?_, ?_⟩
  · intro b hb
    rcases List.mem_append.1 hb with hb | hb
    · rcases hfp b hb with h' | h'
      · exact .inl (fp_sub h')
      · exact .inr h'
    · simp only [Dk.more, Dk.stands, Dk.nums, List.filterMap_append, List.mem_append] at hb
      rcases hb with hb | hb
      · exact .inl (List.mem_append_right _ hb)
      · right
        obtain ⟨x, hx, hb⟩ := List.mem_filterMap.1 hb
        rw [List.mem_singleton.1 hx] at hb
        exact hv b hb
  · refine ((Keeps.of_below (bs := k.fp) h1).trans' hk2).trans hk3 ?_
    simp [Dk.fp]

set_option maxHeartbeats 400000 in
theorem write_yes_some (k : Dk) (off : Nat) (B : Option Addr) (n d : Nat) (xs : List UInt8) (w : World) (h : DiskAt w k) (hn : xs.length = n) (hv : BytesAt w (.slice B n d) xs) (hf : off + n ≤ k.S.length) (hn0 : (0 : Int) < (n : Int)) (hf2 : off + n ≤ k.lim) (hl : k.left ≠ 0) (hW : k.W.length ≤ 1000000) (hd : k.done < 4611686018427387904) :
    Calls Try.prog 17 #[.pointer (some ⟨k.p, 0, none⟩), .int .i64 (off : Int), .slice B n d] w fun e w' => e = .returned (.int .i64 0) ∧ ∃ k', Goes w k w' k' ∧ k'.dat = k.dat.write off xs ∧ k'.W.length = k.W.length + 1 := by
  have c0 := h.c0
  have c3 := h.c3
  have c4 := h.c4
  have hp := h.pos
  have hb := h.big
  have hlim := h.lim
  have hl0 : (k.left == 0) = false := by simpa using hl
  have HD := Lib.hid h
  have HV := Lib.hid hv
  have HN := Lib.hid hn
  clear h hv hn hl
  go_enter Try.func17, Try.ntmps17
  go_wp2
  refine wp_scope_once 0 rfl ?_
  go_wp2_with (first
    | (go_at_call 33; refine (missing_not _ _ _ _ _ c0 (by omega) (by omega)).mono ?_; rintro e w' ⟨rfl, rfl⟩)
    | (go_at_call 26; refine (size_any _ _ _ _ _ c0 (by omega) (by omega)).mono ?_; rintro e w' ⟨rfl, rfl⟩)
    | (go_at_call 34; refine (within_yes _ _ _ _ (by omega) (by omega) (by omega) (by omega) (by omega) (by omega)).mono ?_; rintro e w' ⟨rfl, rfl⟩)
    | (go_at_call 35; refine (clone_len _ n xs _ HN.out (by omega) HV.out).mono ?_; rintro e w1 ⟨A1, c1, rfl, ho, hb1⟩; have HO := Lib.hid ho; have HB1 := Lib.hid hb1; clear ho hb1))
  have hst := Lib.hid (stand_try k off A1 n c1 xs w1 (HD.out.grow (Keeps.of_below HB1.out)) HN.out (by have := HO.out; have h2 := HN.out; subst h2; exact BytesAt.of_own this) hf (fun b hb => ⟨(HO.out.lt b hb).2, fresh_not_fp HD.out (HO.out.lt b hb).1⟩) hW)
  refine hst.out.mono ?_
  rintro e w2 ⟨q, rfl, hd2, hq2, hk2⟩
  have HD2 := Lib.hid hd2
  have HQ2 := Lib.hid hq2
  have HK2 := Lib.hid hk2
  clear hd2 hq2 hk2 hst
  go_wp2_with fail
  refine (count_any _ w2 HD2.out hd).mono ?_
  rintro e w3 ⟨rfl, hd3, hk3⟩
  have HE := Lib.hid (write_end HD.out HB1.out (fun b hb => (HO.out.lt b hb).1) HQ2.out HK2.out hd3 hk3)
  clear hd3 hk3
  go_wp2
  simp only [Exit.jump]
  go_ret
  exact ⟨rfl, _, HE.out, by simp [Dk.dat, Dat.write, Dk.nums, Dk.more, Dk.stands], by simp [Dk.nums, Dk.more, Dk.stands]⟩

set_option maxHeartbeats 400000 in
theorem write_yes_none (k : Dk) (off : Nat) (B : Option Addr) (n d : Nat) (xs : List UInt8) (w : World) (h : DiskAt w k) (hn : xs.length = n) (hv : BytesAt w (.slice B n d) xs) (hf : off + n ≤ k.S.length) (hn0 : ¬ (0 : Int) < (n : Int)) (hl : k.left ≠ 0) (hW : k.W.length ≤ 1000000) (hd : k.done < 4611686018427387904) :
    Calls Try.prog 17 #[.pointer (some ⟨k.p, 0, none⟩), .int .i64 (off : Int), .slice B n d] w fun e w' => e = .returned (.int .i64 0) ∧ ∃ k', Goes w k w' k' ∧ k'.dat = k.dat.write off xs ∧ k'.W.length = k.W.length + 1 := by
  have c0 := h.c0
  have c3 := h.c3
  have c4 := h.c4
  have hp := h.pos
  have hb := h.big
  have hlim := h.lim
  have hl0 : (k.left == 0) = false := by simpa using hl
  have HD := Lib.hid h
  have HV := Lib.hid hv
  have HN := Lib.hid hn
  clear h hv hn hl
  go_enter Try.func17, Try.ntmps17
  go_wp2
  refine wp_scope_once 0 rfl ?_
  go_wp2_with (first
    | (go_at_call 33; refine (missing_not _ _ _ _ _ c0 (by omega) (by omega)).mono ?_; rintro e w' ⟨rfl, rfl⟩)
    | (go_at_call 26; refine (size_any _ _ _ _ _ c0 (by omega) (by omega)).mono ?_; rintro e w' ⟨rfl, rfl⟩)
    | (go_at_call 34; refine (within_yes _ _ _ _ (by omega) (by omega) (by omega) (by omega) (by omega) (by omega)).mono ?_; rintro e w' ⟨rfl, rfl⟩)
    | (go_at_call 35; refine (clone_len _ n xs _ HN.out (by omega) HV.out).mono ?_; rintro e w1 ⟨A1, c1, rfl, ho, hb1⟩; have HO := Lib.hid ho; have HB1 := Lib.hid hb1; clear ho hb1))
  have hst := Lib.hid (stand_try k off A1 n c1 xs w1 (HD.out.grow (Keeps.of_below HB1.out)) HN.out (by have := HO.out; have h2 := HN.out; subst h2; exact BytesAt.of_own this) hf (fun b hb => ⟨(HO.out.lt b hb).2, fresh_not_fp HD.out (HO.out.lt b hb).1⟩) hW)
  refine hst.out.mono ?_
  rintro e w2 ⟨q, rfl, hd2, hq2, hk2⟩
  have HD2 := Lib.hid hd2
  have HQ2 := Lib.hid hq2
  have HK2 := Lib.hid hk2
  clear hd2 hq2 hk2 hst
  go_wp2_with fail
  refine (count_any _ w2 HD2.out hd).mono ?_
  rintro e w3 ⟨rfl, hd3, hk3⟩
  have HE := Lib.hid (write_end HD.out HB1.out (fun b hb => (HO.out.lt b hb).1) HQ2.out HK2.out hd3 hk3)
  clear hd3 hk3
  go_wp2
  simp only [Exit.jump]
  go_ret
  exact ⟨rfl, _, HE.out, by simp [Dk.dat, Dat.write, Dk.nums, Dk.more, Dk.stands], by simp [Dk.nums, Dk.more, Dk.stands]⟩

theorem write_yes (k : Dk) (off : Nat) (B : Option Addr) (n d : Nat) (xs : List UInt8) (w : World) (h : DiskAt w k) (hn : xs.length = n) (hv : BytesAt w (.slice B n d) xs) (hf : off + n ≤ k.S.length) (hf2 : n = 0 ∨ off + n ≤ k.lim) (hl : k.left ≠ 0) (hW : k.W.length ≤ 1000000) (hd : k.done < 4611686018427387904) :
    Calls Try.prog 17 #[.pointer (some ⟨k.p, 0, none⟩), .int .i64 (off : Int), .slice B n d] w fun e w' => e = .returned (.int .i64 0) ∧ ∃ k', Goes w k w' k' ∧ k'.dat = k.dat.write off xs ∧ k'.W.length = k.W.length + 1 := by
  rcases Nat.eq_zero_or_pos n with hz | hz
  · exact write_yes_none k off B n d xs w h hn hv hf (by omega) hl hW hd
  · exact write_yes_some k off B n d xs w h hn hv hf (by omega) (by omega) hl hW hd

theorem write_range (k : Dk) (a : Int) (B : Option Addr) (n d : Nat) (w : World) (h : DiskAt w k) (hn : n ≤ 9223372036854775807) (hf : ¬ (0 ≤ a ∧ a ≤ (k.S.length : Int) - (n : Int))) :
    Calls Try.prog 17 #[.pointer (some ⟨k.p, 0, none⟩), .int .i64 a, .slice B n d] w fun e w' => e = .returned (.int .i64 4) ∧ w = w' := by
  have HF := Lib.hid hf
  clear hf
  have c0 := h.c0
  have c3 := h.c3
  have c4 := h.c4
  have hp := h.pos
  have hb := h.big
  have hlim := h.lim
  clear h
  go_enter Try.func17, Try.ntmps17
  go_wp2
  refine wp_scope_once 0 rfl ?_
  go_wp2_with (first
    | (go_at_call 33; refine (missing_not _ _ _ _ _ c0 (by omega) (by omega)).mono ?_; rintro e w' ⟨rfl, rfl⟩)
    | (go_at_call 26; refine (size_any _ _ _ _ _ c0 (by omega) (by omega)).mono ?_; rintro e w' ⟨rfl, rfl⟩)
    | (go_at_call 34; refine (within_no _ _ _ _ (by omega) (by omega) (by omega) (by omega) HF.out).mono ?_; rintro e w' ⟨rfl, rfl⟩))
  go_step3
  refine ⟨rfl, ?_⟩
  go_wp2
  rw [Exit.noGoto_ret]
  go_ret
  exact ⟨rfl, rfl⟩

theorem write_full (k : Dk) (off : Nat) (B : Option Addr) (n d : Nat) (w : World) (h : DiskAt w k) (hf : off + n ≤ k.S.length) (hn0 : (0 : Int) < (n : Int)) (hf2 : ¬ off + n ≤ k.lim) :
    Calls Try.prog 17 #[.pointer (some ⟨k.p, 0, none⟩), .int .i64 (off : Int), .slice B n d] w fun e w' => e = .returned (.int .i64 110) ∧ w = w' := by
  have c0 := h.c0
  have c3 := h.c3
  have c4 := h.c4
  have hp := h.pos
  have hb := h.big
  have hlim := h.lim
  clear h
  go_enter Try.func17, Try.ntmps17
  go_wp2
  refine wp_scope_once 0 rfl ?_
  go_wp2_with (first
    | (go_at_call 33; refine (missing_not _ _ _ _ _ c0 (by omega) (by omega)).mono ?_; rintro e w' ⟨rfl, rfl⟩)
    | (go_at_call 26; refine (size_any _ _ _ _ _ c0 (by omega) (by omega)).mono ?_; rintro e w' ⟨rfl, rfl⟩)
    )
  refine (within_yes _ _ _ _ (by omega) (by omega) (by omega) (by omega) (by omega) (by omega)).mono ?_
  rintro e w' ⟨rfl, rfl⟩
  go_wp2_with fail
  refine (within_no _ _ _ _ (by omega) (by omega) (by omega) (by omega) (by omega)).mono ?_
  rintro e w' ⟨rfl, rfl⟩
  go_wp2
  go_step3
  refine ⟨rfl, ?_⟩
  go_wp2
  rw [Exit.noGoto_ret]
  go_ret
  exact ⟨rfl, rfl⟩

theorem write_stop_some (k : Dk) (off : Nat) (B : Option Addr) (n d : Nat) (w : World) (h : DiskAt w k) (hf : off + n ≤ k.S.length) (hn0 : (0 : Int) < (n : Int)) (hf2 : off + n ≤ k.lim) (hl : k.left = 0) :
    Calls Try.prog 17 #[.pointer (some ⟨k.p, 0, none⟩), .int .i64 (off : Int), .slice B n d] w fun e w' => e = .returned (.int .i64 111) ∧ w = w' := by
  have hl0 : (k.left == 0) = true := by simpa using hl
  clear hl
  have c0 := h.c0
  have c3 := h.c3
  have c4 := h.c4
  have hp := h.pos
  have hb := h.big
  have hlim := h.lim
  clear h
  go_enter Try.func17, Try.ntmps17
  go_wp2
  refine wp_scope_once 0 rfl ?_
  go_wp2_with (first
    | (go_at_call 33; refine (missing_not _ _ _ _ _ c0 (by omega) (by omega)).mono ?_; rintro e w' ⟨rfl, rfl⟩)
    | (go_at_call 26; refine (size_any _ _ _ _ _ c0 (by omega) (by omega)).mono ?_; rintro e w' ⟨rfl, rfl⟩)
    | (go_at_call 34; refine (within_yes _ _ _ _ (by omega) (by omega) (by omega) (by omega) (by omega) (by omega)).mono ?_; rintro e w' ⟨rfl, rfl⟩))
  go_step3
  refine ⟨rfl, ?_⟩
  go_wp2
  rw [Exit.noGoto_ret]
  go_ret
  exact ⟨rfl, rfl⟩

theorem write_stop_none (k : Dk) (off : Nat) (B : Option Addr) (n d : Nat) (w : World) (h : DiskAt w k) (hf : off + n ≤ k.S.length) (hn0 : ¬ (0 : Int) < (n : Int)) (hl : k.left = 0) :
    Calls Try.prog 17 #[.pointer (some ⟨k.p, 0, none⟩), .int .i64 (off : Int), .slice B n d] w fun e w' => e = .returned (.int .i64 111) ∧ w = w' := by
  have hl0 : (k.left == 0) = true := by simpa using hl
  clear hl
  have c0 := h.c0
  have c3 := h.c3
  have c4 := h.c4
  have hp := h.pos
  have hb := h.big
  have hlim := h.lim
  clear h
  go_enter Try.func17, Try.ntmps17
  go_wp2
  refine wp_scope_once 0 rfl ?_
  go_wp2_with (first
    | (go_at_call 33; refine (missing_not _ _ _ _ _ c0 (by omega) (by omega)).mono ?_; rintro e w' ⟨rfl, rfl⟩)
    | (go_at_call 26; refine (size_any _ _ _ _ _ c0 (by omega) (by omega)).mono ?_; rintro e w' ⟨rfl, rfl⟩)
    | (go_at_call 34; refine (within_yes _ _ _ _ (by omega) (by omega) (by omega) (by omega) (by omega) (by omega)).mono ?_; rintro e w' ⟨rfl, rfl⟩))
  go_step3
  refine ⟨rfl, ?_⟩
  go_wp2
  rw [Exit.noGoto_ret]
  go_ret
  exact ⟨rfl, rfl⟩

theorem write_stop (k : Dk) (off : Nat) (B : Option Addr) (n d : Nat) (w : World) (h : DiskAt w k) (hf : off + n ≤ k.S.length) (hf2 : n = 0 ∨ off + n ≤ k.lim) (hl : k.left = 0) :
    Calls Try.prog 17 #[.pointer (some ⟨k.p, 0, none⟩), .int .i64 (off : Int), .slice B n d] w fun e w' => e = .returned (.int .i64 111) ∧ w = w' := by
  rcases Nat.eq_zero_or_pos n with hz | hz
  · exact write_stop_none k off B n d w h hf (by omega) hl
  · exact write_stop_some k off B n d w h hf (by omega) (by omega) hl

end Go.Proofs.Ytadpomclnhemoaa
