/- does: a crash, and it goes on with what that leaves. -/
import Derived.Test.YtadpomclnhemoaaS8
namespace Go.Proofs.Ytadpomclnhemoaa
open Go.RowKit
set_option linter.unusedVariables false

theorem refcrash_any (r : Rf) (d : Dat) (keep torn : Int) (w : World) (h : RefAt w r) (hL : d.L = r.L) (hD : d.W = wdat r.W) (hk : i64 keep) (ht : i64 torn) (hW : r.W.length ≤ 1000000) :
    Calls Try.prog 32 #[r.v, .int .i64 keep, .int .i64 torn] w fun e w' => ∃ q : Rf, e = .returned q.v ∧ RefAt w' q ∧ (∀ b ∈ q.all, w.heap.size ≤ b) ∧ (q.L = tornOf d keep torn ∧ q.W = [] ∧ q.armed = -1 ∧ q.lim = r.lim ∧ q.done = 0) ∧ Keeps [] w w' := by
  have hlen : d.W.length = r.W.length := by rw [hD]; simp [wdat]
  have hK : keep % ((r.W.length : Int) + 1) = (keepOf d keep : Int) := by
    unfold keepOf
    rw [hlen]
    have := Int.emod_nonneg keep (show ((r.W.length : Int) + 1) ≠ 0 by omega)
    omega
  have htk : d.W.take (keepOf d keep) = wdat (r.W.take (keepOf d keep)) := by rw [hD]; simp [wdat, List.map_take]
  unfold tornOf
  rw [htk, hL]
  by_cases hlt : keepOf d keep < r.W.length
  · have hx : r.W[keepOf d keep]? = some r.W[keepOf d keep] := List.getElem?_eq_getElem hlt
    have hx2 : d.W[keepOf d keep]? = some (r.W[keepOf d keep].off, r.W[keepOf d keep].xs) := by rw [hD]; simp [wdat, hx]
    rw [hx2]
    generalize r.W[keepOf d keep] = x at hx
    have hT : torn % ((x.xs.length : Int) + 1) = ((torn % ((x.xs.length : Int) + 1)).toNat : Int) := by
      have := Int.emod_nonneg torn (show ((x.xs.length : Int) + 1) ≠ 0 by omega)
      omega
    refine (refcrash_some r keep torn _ _ x w h hK hx hT hk ht hW hlt).mono ?_
    rintro e w' ⟨g, c, he, hq, hg, hb⟩
    exact ⟨_, he, hq, fun b hb => by rw [still_all hb]; exact hg, ⟨rfl, rfl, rfl, rfl, rfl⟩, Keeps.of_below hb⟩
  · have hx2 : d.W[keepOf d keep]? = none := List.getElem?_eq_none (by omega)
    rw [hx2]
    refine (refcrash_all r keep torn _ w h hK hk hW hlt).mono ?_
    rintro e w' ⟨g, c, he, hq, hg, hb⟩
    exact ⟨_, he, hq, fun b hb => by rw [still_all hb]; exact hg, ⟨rfl, rfl, rfl, rfl, rfl⟩, Keeps.of_below hb⟩

end Go.Proofs.Ytadpomclnhemoaa
