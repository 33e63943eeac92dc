/- Crash: the disk that it leaves. -/
import Derived.Test.YtadpomclnhemoaaD11
namespace Go.Proofs.Ytadpomclnhemoaa
open Go.RowKit
set_option linter.unusedVariables false

def Dat.crash (d : Dat) (keep torn : Int) : Dat := ⟨tornOf d keep torn, tornOf d keep torn, [], d.lim, -1, 0⟩

theorem freshDk_all {g c : Nat} {S : List UInt8} {lim p l cl B : Nat} (h1 : B ≤ g) (h2 : B ≤ p) (h3 : B ≤ l) : ∀ b ∈ (freshDk g c S lim p l cl).all, B ≤ b := by
  intro b hb
  simp [Dk.all, Dk.fp, freshDk, Value.ownBlock] at hb
  omega

set_option maxHeartbeats 1000000 in
theorem crash_yes (k : Dk) (keep torn : Int) (w : World) (h : DiskAt w k) (hk : -9223372036854775808 ≤ keep ∧ keep ≤ 9223372036854775807) (ht : -9223372036854775808 ≤ torn ∧ torn ≤ 9223372036854775807) (hW : k.W.length ≤ 1000000) :
    Calls Try.prog 21 #[.pointer (some ⟨k.p, 0, none⟩), .agg #[.int .i64 keep, .int .i64 torn]] w fun e w' => ∃ k', e = .returned (.tuple #[.pointer (some ⟨k'.p, 0, none⟩), .int .i64 0]) ∧ DiskAt w' k' ∧ k'.dat = k.dat.crash keep torn ∧ (∀ b ∈ k'.all, w.heap.size ≤ b) ∧ Keeps [] w w' := by
  have c0 := h.c0
  have c3 := h.c3
  have hp := h.pos
  have hb := h.big
  have hlim := h.lim
  have hpl := lt_of_heap h.blk
  have c0' := fun o : Obj => (World.cell?_alloc_lt w o ⟨k.p, 0, none⟩ hpl).trans c0
  have HD := Lib.hid h
  have HK := Lib.hid hk
  have HT := Lib.hid ht
  clear h hk ht
  go_enter Try.func21, Try.ntmps21
  go_wp2
  refine wp_scope_once 0 rfl ?_
  go_wp2_with (first
    | (go_at_call 33; refine (missing_not _ _ _ _ _ (c0' _) (by omega) (by omega)).mono ?_; rintro e w' ⟨rfl, rfl⟩))
  go_region_with (first
    | (go_at_call 42; refine (torn_try k keep torn _ (HD.out.grow ((Keeps.refl [] w).alloc _).drew) HK.out HT.out hW).mono ?_; rintro e w1 ⟨g, c, rfl, ho, hb1⟩; have c31 := (hb1.cell (p := ⟨k.p, 3, none⟩) (by simp [World.drew]; omega)); have HO := Lib.hid ho; have HB1 := Lib.hid hb1; clear ho hb1; simp at c31)
    | (go_at_call 28; refine (fresh_len g c k.S.length (tornOf k.dat keep torn) k.lim w1 (by simpa using HO.out.1) (HO.out.mono (Nat.zero_le _)) (by omega) (by omega) (by omega)).mono ?_; rintro e w2 ⟨p, l, cl, rfl, hd2, hp2, hl2, hk2⟩; have HD2 := Lib.hid hd2; have HK2 := Lib.hid hk2; clear hd2 hk2))
  all_goals
    have hkk : Keeps [] w w1 := ((Keeps.refl [] w).alloc (.cells #[.int .i64 keep, .int .i64 torn] 38)).drew.trans' (Keeps.of_below HB1.out)
    have hgg : w.heap.size ≤ g := by have := (HO.out.lt g rfl).1; simp [World.drew] at this; omega
    have hsz := hkk.size
    have HKK := Lib.hid hkk
    clear hkk
    go_wp2
    simp only [Exit.jump]
    go_ret2
    exact ⟨freshDk g c (tornOf k.dat keep torn) k.lim p l cl, rfl, HD2.out, rfl, freshDk_all hgg (by omega) (by omega), HKK.out.trans' HK2.out⟩

end Go.Proofs.Ytadpomclnhemoaa
