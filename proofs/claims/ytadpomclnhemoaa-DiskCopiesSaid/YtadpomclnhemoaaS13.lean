/- DiskPlay, DiskReads, DiskCopies: what a round finds, and what it leaves. -/
import Derived.Test.YtadpomclnhemoaaS12
namespace Go.Proofs.Ytadpomclnhemoaa
open Go.RowKit
set_option linter.unusedVariables false

/-- The box of the document's disk. -/
def Rf.box (r : Rf) : Obj := .cells #[.slice r.AL r.L.length r.cL, .slice r.AW r.W.length r.cW, .int .i64 r.armed, .int .i64 (r.lim : Int), .int .i64 (r.done : Int)] 32 (0, 0)

/-- Behind j calls: both agree, in memory that is all newer than the arguments. -/
structure PI (w0 : World) (size j : Nat) (wr : World) (k : Dk) (r : Rf) : Prop where
  pair : Pair wr k r
  kn : ∀ b ∈ k.fp, w0.heap.size ≤ b
  keeps : Keeps [] w0 wr
  many : k.S.length = size
  wait : k.W.length ≤ j
  done : k.done ≤ j

theorem PI.grow {w0 wr w' : World} {size j : Nat} {k : Dk} {r : Rf} (h : PI w0 size j wr k r) (hk : Keeps [] wr w') : PI w0 size j w' k r :=
  ⟨h.pair.grow hk, h.kn, h.keeps.trans' hk, h.many, h.wait, h.done⟩

theorem PI.went {w0 wr w' : World} {size j : Nat} {k k' : Dk} {r r' : Rf} (h : PI w0 size j wr k r) (hw : Went wr k r w' k' r') : PI w0 size (j + 1) w' k' r' := by
  have hz := h.keeps.size
  refine ⟨hw.pair, fun b hb => ?_, h.keeps.trans hw.keeps (fun y hy => .inr (h.kn y hy)), by rw [hw.many]; exact h.many, by have := hw.waits; have := h.wait; omega, by have := hw.steps; have := h.done; omega⟩
  rcases hw.kfp b hb with h' | h'
  · exact h.kn b h'
  · omega

/-- A box that lies apart is turned: both stay. -/
theorem PI.turn {w0 wr w' : World} {size j b : Nat} {k : Dk} {r : Rf} (h : PI w0 size j wr k r) (hk : Keeps [b] wr w') (h1 : b ∉ k.all) (h2 : b ∉ r.all) (h3 : w0.heap.size ≤ b) : PI w0 size j w' k r := by
  refine ⟨⟨h.pair.disk.keep hk (fun y hy hm => ?_), h.pair.ref.keep hk (fun y hy hm => ?_), h.pair.ag, h.pair.apart⟩, h.kn, h.keeps.trans hk (fun y hy => .inr (by rw [List.mem_singleton] at hy; omega)), h.many, h.wait, h.done⟩
  · rw [List.mem_singleton] at hm; exact h1 (hm ▸ hy)
  · rw [List.mem_singleton] at hm; exact h2 (hm ▸ hy)

/-- A block that lies apart from both lies apart behind a call, too, and holds what it held. -/
theorem Went.apart {w w' : World} {k k' : Dk} {r r' : Rf} {b : Nat} {o : Obj} (h : Went w k r w' k' r') (hb : w.heap[b]? = some o) (h1 : b ∉ k.all) (h2 : b ∉ r.all) : w'.heap[b]? = some o ∧ b ∉ k'.all ∧ b ∉ r'.all := by
  have hz := lt_of_heap hb
  refine ⟨blk_keep hb h.keeps (fun hm => h1 (fp_sub hm)), fun hm => ?_, fun hm => ?_⟩
  · rcases h.kall b hm with h' | h'
    · exact h1 h'
    · omega
  · rcases h.rall b hm with h' | h'
    · exact h2 h'
    · omega

end Go.Proofs.Ytadpomclnhemoaa
