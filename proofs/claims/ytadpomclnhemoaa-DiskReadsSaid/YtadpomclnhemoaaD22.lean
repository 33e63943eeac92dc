/- Arm and Limit as steps of a disk; all bytes read; where bytes lie. -/
import Derived.Test.YtadpomclnhemoaaD21
namespace Go.Proofs.Ytadpomclnhemoaa
open Go.RowKit
set_option linter.unusedVariables false

theorem goes_nums {w w' : World} {k : Dk} {lim : Nat} {left : Int} {done : Nat} (hd : DiskAt w' (k.nums lim left done)) (hk : Keeps [k.p] w w') : Goes w k w' (k.nums lim left done) :=
  ⟨hd, rfl, fun b hb => .inl hb, fun b hb => .inl hb, hk.mono (by simp [Dk.fp])⟩

theorem arm_goes (k : Dk) (n : Int) (w : World) (h : DiskAt w k) (hn : i64 n) :
    Calls Try.prog 19 #[.pointer (some ⟨k.p, 0, none⟩), .int .i64 n] w fun e w' => e = .returned (.int .i64 0) ∧ Goes w k w' (k.nums k.lim (max n (-1)) k.done) :=
  (arm_any k n w h hn).mono fun _ _ ⟨h1, h2, h3⟩ => ⟨h1, goes_nums h2 h3⟩

theorem limit_goes (k : Dk) (n : Nat) (w : World) (h : DiskAt w k) (hn : n ≤ k.S.length) :
    Calls Try.prog 20 #[.pointer (some ⟨k.p, 0, none⟩), .int .i64 (n : Int)] w fun e w' => e = .returned (.int .i64 0) ∧ Goes w k w' (k.nums n k.left k.done) :=
  (limit_yes k n w h hn).mono fun _ _ ⟨h1, h2, h3⟩ => ⟨h1, goes_nums h2 h3⟩

theorem read_all (k : Dk) (size : Nat) (xs : List UInt8) (w : World) (h : DiskAt w k) (hs : k.S.length = size) (hx : k.S = xs) :
    Calls Try.prog 15 #[.pointer (some ⟨k.p, 0, none⟩), .int .i64 0, .int .i64 (size : Int)] w fun e w' => ∃ A c, e = .returned (.tuple #[.slice A size c, .int .i64 0]) ∧ BytesAt w' (.slice A size c) xs ∧ Keeps [] w w' := by
  refine (read_yes k 0 size w h (by omega)).mono ?_
  rintro e w' ⟨A, c, he, ho, hb⟩
  have e2 : (k.S.drop 0).take size = xs := by rw [List.drop_zero, List.take_of_length_le (by omega)]; exact hx
  rw [e2] at ho
  have hl : xs.length = size := by rw [← hx]; exact hs
  refine ⟨A, c, he, ?_, Keeps.of_below hb⟩
  subst hl
  exact BytesAt.of_own ho

theorem bytes_addr {w : World} {A : Option Addr} {n c : Nat} {xs : List UInt8} (h : BytesAt w (.slice A n c) xs) (hn : 0 < n) : ∃ b o, A = some ⟨b, o, none⟩ ∧ ∀ i u, xs[i]? = some u → w.cell? ⟨b, o + i, none⟩ = some (.int .u8 (u.toNat : Int)) := by
  obtain ⟨A', c', he, _, _, h3⟩ := h
  injection he with he1 he2 _
  subst he1
  exact h3 (by omega)

end Go.Proofs.Ytadpomclnhemoaa
