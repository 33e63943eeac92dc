/- DiskCrash: what its loop keeps. -/
import Derived.Test.YtadpomclnhemoaaD21
namespace Go.Proofs.Ytadpomclnhemoaa
open Go.RowKit
set_option linter.unusedVariables false

/-- Marks from a place on. -/
def marked (T : List Bool) (off : Nat) : Nat → List Bool
  | 0 => T
  | c + 1 => (marked T off c).set (off + c) true
theorem length_marked (T : List Bool) (off c : Nat) : (marked T off c).length = T.length := by
  induction c with
  | zero => rfl
  | succ c ih => simp [marked, ih]
theorem marked_old {T : List Bool} {off i : Nat} (h : T[i]? = some true) (c : Nat) : (marked T off c)[i]? = some true := by
  induction c with
  | zero => exact h
  | succ c ih =>
    simp only [marked, List.getElem?_set]
    split
    · rename_i he
      subst he
      have := (List.getElem?_eq_some_iff.1 ih).1
      simp [this]
    · exact ih
theorem marked_new {T : List Bool} {off c : Nat} (hf : off + c ≤ T.length) : ∀ i, off ≤ i → i < off + c → (marked T off c)[i]? = some true := by
  induction c with
  | zero => intro i h1 h2; omega
  | succ c ih =>
    intro i h1 h2
    simp only [marked, List.getElem?_set]
    split
    · rename_i he
      have : off + c < (marked T off c).length := by rw [length_marked]; omega
      simp [this]
    · exact ih (by omega) i h1 (by omega)

theorem covers_write {T : List Bool} {W : List (Nat × List UInt8)} {off : Nat} {xs : List UInt8} (h : Covers T W) (hf : off + xs.length ≤ T.length) : Covers (marked T off xs.length) (W ++ [(off, xs)]) := by
  intro x hx i h1 h2
  rcases List.mem_append.1 hx with hx | hx
  · exact marked_old (h x hx i h1 h2) _
  · rw [List.mem_singleton.1 hx] at h1 h2
    exact marked_new hf i h1 h2

structure CI (w0 : World) (size j : Nat) (wr : World) (k : Dk) (la : Value) (t : Nat) (T : List Bool) : Prop where
  disk : DiskAt wr k
  new : ∀ b ∈ k.all, w0.heap.size ≤ b
  keeps : Keeps [] w0 wr
  many : k.S.length = size
  ok : k.dat.ok
  las : wr.ownsRow 0 5 1 la size (k.L.map bv)
  laB : ∀ b, la.ownBlock = some b → w0.heap.size ≤ b ∧ b ∉ k.all ∧ b ≠ t
  tou : wr.ownsRow 0 4 1 (.slice (some ⟨t, 0, none⟩) size size) size (T.map Value.bool)
  toW : w0.heap.size ≤ t
  toB : t ∉ k.all
  wait : k.W.length ≤ j
  done : k.done ≤ j

section
variable {w0 wr w1 : World} {size j : Nat} {k k' : Dk} {la : Value} {t : Nat} {T : List Bool}

theorem CI.grow (h : CI w0 size j wr k la t T) (hk : Keeps [] wr w1) : CI w0 size j w1 k la t T :=
  ⟨h.disk.grow hk, h.new, h.keeps.trans' hk, h.many, h.ok, own_keep h.las hk (by simp), h.laB, own_keep h.tou hk (by simp), h.toW, h.toB, h.wait, h.done⟩

theorem CI.later (h : CI w0 size j wr k la t T) : CI w0 size (j + 1) wr k la t T :=
  ⟨h.disk, h.new, h.keeps, h.many, h.ok, h.las, h.laB, h.tou, h.toW, h.toB, by have := h.wait; omega, by have := h.done; omega⟩

theorem CI.goes (h : CI w0 size j wr k la t T) (hg : Goes wr k w1 k') (hS : k'.S.length = k.S.length) (hL : k'.L = k.L) (hok : k'.dat.ok) (hw : k'.W.length ≤ k.W.length + 1) (hd : k'.done ≤ k.done + 1) : CI w0 size (j + 1) w1 k' la t T := by
  have hlt : t < wr.heap.size := (h.tou.lt t rfl).2
  have hn : ∀ b, b < wr.heap.size → b ∉ k.all → b ∉ k'.all := fun b hb hx hm => by
    rcases hg.all b hm with h1 | h1
    · exact hx h1
    · omega
  refine ⟨hg.disk, hg.newer h.keeps.size h.new, h.keeps.trans hg.keeps (fun x hx => .inr (h.new x (fp_sub hx))), hS.trans h.many, hok, ?_, ?_, ?_, h.toW, hn t hlt h.toB, by have := h.wait; omega, by have := h.done; omega⟩
  · rw [hL]
    exact own_keep h.las hg.keeps (fun b hb hm => (h.laB b hb).2.1 (fp_sub hm))
  · intro b hb
    obtain ⟨a1, a2, a3⟩ := h.laB b hb
    exact ⟨a1, hn b (h.las.lt b hb).2 a2, a3⟩
  · refine own_keep h.tou hg.keeps (fun b hb hm => ?_)
    simp only [Value.ownBlock, Option.some.injEq] at hb
    subst hb
    exact h.toB (fp_sub hm)

theorem CI.mark (h : CI w0 size j wr k la t T) {T' : List Bool} (hk : Keeps [t] wr w1) (ho : w1.ownsRow 0 4 1 (.slice (some ⟨t, 0, none⟩) size size) size (T'.map Value.bool)) : CI w0 size j w1 k la t T' := by
  refine ⟨h.disk.keep hk (fun b hb hm => ?_), h.new, h.keeps.trans hk (fun x hx => ?_), h.many, h.ok, own_keep h.las hk (fun b hb hm => ?_), h.laB, ho, h.toW, h.toB, h.wait, h.done⟩
  · rw [List.mem_singleton.1 hm] at hb; exact h.toB hb
  · rw [List.mem_singleton.1 hx]; exact .inr h.toW
  · exact (h.laB b hb).2.2 (List.mem_singleton.1 hm)

/-- Behind a sync: what lasts is read anew, and nothing is marked. -/
theorem CI.fresh (h : CI w0 size j wr k la t T) (hW : k.W = []) {w2 : World} {A : Option Addr} {c : Nat} {xs : List UInt8} (hx : xs = k.S) (ho : w1.ownsRow wr.heap.size 5 1 (.slice A size c) size (xs.map bv)) (hb : Below wr.heap.size wr w1)
    (hg : w1.grownBy w2 none) (ht : w2.ownsRow 0 4 1 (.slice (some ⟨w1.heap.size, 0, none⟩) size size) size ((List.replicate size false).map Value.bool)) : CI w0 size j w2 k (.slice A size c) w1.heap.size (List.replicate size false) := by
  have hk1 : Keeps [] wr w1 := Keeps.of_below hb
  have hk2 : Keeps [] w1 w2 := Keeps.of_grown hg (by simp)
  have hLS : k.L = k.S := by have := h.ok; unfold Dat.ok at this; simp only [Dk.dat, hW] at this; exact this.symm
  have hz := h.keeps.size
  have hz1 := hb.size
  refine ⟨h.disk.grow (hk1.trans' hk2), h.new, h.keeps.trans' (hk1.trans' hk2), h.many, h.ok, ?_, ?_, ht, by omega, fun hm => ?_, h.wait, h.done⟩
  · rw [hLS, ← hx]
    exact own_keep (ho.mono (Nat.zero_le _)) hk2 (by simp)
  · intro b hb'
    obtain ⟨a1, a2⟩ := ho.lt b hb'
    exact ⟨by omega, fun hm => by have := h.disk.lt b hm; omega, by omega⟩
  · have := h.disk.lt _ hm
    omega
end

theorem bool_info : (Try.prog.info? 4).map (fun i => (i.zero, i.size, i.bytes)) = some (some (.bool false), 1, 1) := by kernel_rfl

theorem made_bools {w : World} {n g : Nat} (h : w.ownsRow 0 4 1 (.slice (some ⟨g, 0, none⟩) n n) n (madeCells (Value.bool false).cells (n * 1)).toList) : w.ownsRow 0 4 1 (.slice (some ⟨g, 0, none⟩) n n) n ((List.replicate n false).map Value.bool) := by
  have e : (madeCells (Value.bool false).cells (n * 1)).toList = (List.replicate n false).map Value.bool := by
    rw [Nat.mul_one]
    show (madeCells #[Value.bool false] n).toList = _
    rw [toList_madeCells_one]
    simp
  rwa [e] at h

end Go.Proofs.Ytadpomclnhemoaa
