/- does: whatever call. -/
import Derived.Test.YtadpomclnhemoaaS11
namespace Go.Proofs.Ytadpomclnhemoaa
open Go.RowKit
set_option linter.unusedVariables false

theorem does_any (k : Dk) (r : Rf) (x : ActD) (w : World) (h : Pair w k r) (hx : BytesAt w (.slice x.A x.bs.length x.c) x.bs) (hb : x.bs.length ≤ 9223372036854775807) (ha : i64 x.at_) (hn : i64 x.n) (hkp : i64 x.keep) (htn : i64 x.torn) (hE : wErr k.dat x.at_ x.bs.length = rErr r.L r.lim r.armed x.at_ x.bs.length) (hW : k.W.length ≤ 1000000) (hd : k.done < 4611686018427387904) :
    Calls Try.prog 13 #[.pointer (some ⟨k.p, 0, none⟩), r.v, x.v] w fun e w' => ∃ k' q, e = .returned (.tuple #[.pointer (some ⟨k'.p, 0, none⟩), q.v, .bool true]) ∧ Went w k r w' k' q := by
  by_cases h1 : x.kind = 1
  · exact does_write_any k r x w h h1 hx hb ha hE hW hd
  by_cases h2 : x.kind = 2
  · exact does_sync_any k r x w h h2 hW hd
  by_cases h3 : x.kind = 3
  · exact (does_arm k r x w h h3 hn).mono fun _ _ ⟨a, b⟩ => ⟨k.nums k.lim (max x.n (-1)) k.done, _, a, b⟩
  by_cases h4 : x.kind = 4
  · by_cases hl : x.n < 0 ∨ (r.L.length : Int) < x.n
    · exact (does_limit_no k r x w h h4 hn hl).mono fun _ _ ⟨a, b⟩ => ⟨_, _, a, b⟩
    · obtain ⟨n, hn'⟩ := Int.eq_ofNat_of_zero_le (show 0 ≤ x.n by omega)
      exact (does_limit_yes k r x n w h h4 hn' (by omega)).mono fun _ _ ⟨a, b⟩ => ⟨k.nums n k.left k.done, _, a, b⟩
  by_cases h5 : x.kind = 5
  · exact does_crash5 k r x w h h5 hkp htn hW
  by_cases h6 : x.kind = 6
  · exact (does_crash6 k r x w h h6 hkp htn hW).mono fun _ _ ⟨a, b⟩ => ⟨_, _, a, b⟩
  exact (does_none k r x w h h1 h2 h3 h4 h5 h6).mono fun _ _ ⟨a, b⟩ => ⟨_, _, a, b⟩

/-- What New leaves of both. -/
theorem pair_new {w w1 w2 : World} {k : Dk} {r : Rf} {size : Nat} (hd : DiskAt w1 k) (hS : k.S = List.replicate size 0) (hL : k.L = List.replicate size 0) (hW : k.W = []) (hl : k.lim = size) (ha : k.left = -1) (h0 : k.done = 0) (k2 : Keeps [] w1 w2) (hr : RefAt w2 r) (rL : r.L = List.replicate size 0) (rW : r.W = []) (rl : r.lim = size) (ra : r.armed = -1) (r0 : r.done = 0) (hn : ∀ b ∈ r.all, w1.heap.size ≤ b) : Pair w2 k r := by
  refine ⟨hd.grow k2, hr, ⟨by rw [hL, rL], by rw [hW, rW], by rw [hl, rl], by rw [ha, ra], by rw [h0, r0], ?_⟩, fun b hb hf => ?_⟩
  · show k.S = layAll k.L (wdat k.W)
    rw [hS, hL, hW]
    rfl
  · have := hn b hb
    have := hd.lt b (fp_sub hf)
    omega

end Go.Proofs.Ytadpomclnhemoaa
