/- does: a call on a disk and on the document's: Arm, Limit, and none. -/
import Derived.Test.YtadpomclnhemoaaS1
import Derived.Test.YtadpomclnhemoaaD21
namespace Go.Proofs.Ytadpomclnhemoaa
open Go.RowKit
set_option linter.unusedVariables false

/-- A disk and the document's, in memory of their own. -/
structure Pair (w : World) (k : Dk) (r : Rf) : Prop where
  disk : DiskAt w k
  ref : RefAt w r
  ag : Agree k r
  apart : ∀ b ∈ r.all, b ∉ k.fp

/-- What a call leaves of both. -/
structure Went (w : World) (k : Dk) (r : Rf) (w' : World) (k' : Dk) (r' : Rf) : Prop where
  pair : Pair w' k' r'
  kall : ∀ b ∈ k'.all, b ∈ k.all ∨ w.heap.size ≤ b
  kfp : ∀ b ∈ k'.fp, b ∈ k.fp ∨ w.heap.size ≤ b
  rall : ∀ b ∈ r'.all, b ∈ r.all ∨ w.heap.size ≤ b
  keeps : Keeps k.fp w w'
  many : k'.S.length = k.S.length
  waits : k'.W.length ≤ k.W.length + 1
  steps : k'.done ≤ k.done + 1

def ActD.v (x : ActD) : Value := .agg #[.int .i64 x.kind, .int .i64 x.at_, .int .i64 x.n, .slice x.A x.bs.length x.c, .int .i64 x.keep, .int .i64 x.torn]

theorem Went.still {w w' : World} {k : Dk} {r : Rf} (h : Pair w k r) (hk : Keeps [] w w') : Went w k r w' k r :=
  ⟨⟨h.disk.grow hk, h.ref.grow hk, h.ag, h.apart⟩, fun b hb => .inl hb, fun b hb => .inl hb, fun b hb => .inl hb, hk.mono (by simp), rfl, Nat.le_succ _, Nat.le_succ _⟩

set_option maxHeartbeats 2000000 in
theorem does_none (k : Dk) (r : Rf) (x : ActD) (w : World) (h : Pair w k r) (h1 : x.kind ≠ 1) (h2 : x.kind ≠ 2) (h3 : x.kind ≠ 3) (h4 : x.kind ≠ 4) (h5 : x.kind ≠ 5) (h6 : x.kind ≠ 6) :
    Calls Try.prog 13 #[.pointer (some ⟨k.p, 0, none⟩), r.v, x.v] w fun e w' => e = .returned (.tuple #[.pointer (some ⟨k.p, 0, none⟩), r.v, .bool true]) ∧ Went w k r w' k r := by
  have HP := Lib.hid h
  have e1 : (x.kind == 1) = false := by simpa using h1
  have e2 : (x.kind == 2) = false := by simpa using h2
  have e3 : (x.kind == 3) = false := by simpa using h3
  have e4 : (x.kind == 4) = false := by simpa using h4
  have e5 : (x.kind == 5) = false := by simpa using h5
  have e6 : (x.kind == 6) = false := by simpa using h6
  unfold Rf.v ActD.v
  clear h h1 h2 h3 h4 h5 h6
  go_enter Try.func13, Try.ntmps13
  go_wp2
  go_region_held (fun w' => w'.cell? ⟨w.heap.size, 0, none⟩ = some (.slice r.AL r.L.length r.cL) ∧ w'.cell? ⟨w.heap.size, 1, none⟩ = some (.slice r.AW r.W.length r.cW) ∧ w'.cell? ⟨w.heap.size, 2, none⟩ = some (.int .i64 r.armed) ∧ w'.cell? ⟨w.heap.size, 3, none⟩ = some (.int .i64 (r.lim : Int)) ∧ w'.cell? ⟨w.heap.size, 4, none⟩ = some (.int .i64 (r.done : Int))) (go_keep) (fail)
  all_goals
    go_wp2
    exact bodyPost_ret (v := .tuple #[.pointer (some ⟨k.p, 0, none⟩), .agg #[.slice r.AL r.L.length r.cL, .slice r.AW r.W.length r.cW, .int .i64 r.armed, .int .i64 (r.lim : Int), .int .i64 (r.done : Int)], .bool true]) (by simp [results, Try.results13, go_sem]) rfl ⟨rfl, Went.still HP.out ((((Keeps.refl [] w).alloc _).alloc _).alloc _).drew⟩

end Go.Proofs.Ytadpomclnhemoaa
