/- torn: the bytes that a crash leaves. -/
import Derived.Test.YtadpomclnhemoaaD9
namespace Go.Proofs.Ytadpomclnhemoaa
open Go.RowKit
set_option linter.unusedVariables false

theorem tornfn_any (B2 g c off n : Nat) (T : List UInt8) (v : Value) (xs : List UInt8) (base : Nat) (w : World) (hn : T.length = n) (hr : w.ownsRow base 5 1 (.slice (some ⟨g, 0, none⟩) n c) n (T.map bv)) (hB : w.cell? ⟨B2, 0, none⟩ = some (.slice (some ⟨g, 0, none⟩) n c)) (hv : BytesAt w v xs) (hf : off + xs.length ≤ n) :
    Calls Try.prog 52 #[.agg #[.int .i64 (off : Int), v], .pointer (some ⟨B2, 0, none⟩)] w fun e w' => e = .returned (.tuple #[]) ∧ w'.ownsRow base 5 1 (.slice (some ⟨g, 0, none⟩) n c) n ((laid T off xs).map bv) ∧ Keeps [g] w w' := by
  subst hn
  have hB0 := lt_of_cell hB
  have hv0 := hv
  obtain ⟨A, c', hv1, _⟩ := hv0
  subst hv1
  have HR := Lib.hid hr
  have HV := Lib.hid hv
  clear hr hv
  go_enter Try.func52, Try.ntmps52
  go_wp2_with (go_at_call 41; refine (put_any g c T base off _ xs _ (HR.out.alloc _) hf (HV.out.grow (((Keeps.refl [] w)).alloc _))).mono ?_; rintro e w1 ⟨rfl, ho, hk⟩)
  go_end0
  exact ⟨rfl, ho, (((Keeps.refl _ w)).alloc _).trans' hk⟩

/-- How many of the writes that wait a crash keeps; what it leaves. -/
def keepOf (d : Dat) (keep : Int) : Nat := (keep % ((d.W.length : Int) + 1)).toNat
def tornOf (d : Dat) (keep torn : Int) : List UInt8 :=
  match d.W[keepOf d keep]? with
  | none => layAll d.L (d.W.take (keepOf d keep))
  | some x => laid (layAll d.L (d.W.take (keepOf d keep))) x.1 (x.2.take (torn % ((x.2.length : Int) + 1)).toNat)

theorem own_take {w : World} {Aq : Option Addr} {n cq K : Nat} {W : List Wt} (h : w.ownsRow 0 77 2 (.slice Aq n cq) n (wcells W)) (hn : W.length = n) (hK : K ≤ n) : w.ownsRow 0 77 2 (.slice Aq K cq) K (wcells (W.take K)) := by
  have hl : ∀ D : List Wt, (wcells D).length = D.length * 2 := by
    intro D
    induction D with
    | nil => rfl
    | cons y D ih => simp only [wcells, List.flatMap_cons, List.length_append, List.length_cons, List.length_nil] at ih ⊢; omega
  have ht : (wcells W).take (K * 2) = wcells (W.take K) := by
    have e : wcells W = wcells (W.take K) ++ wcells (W.drop K) := by
      rw [wcells, wcells, wcells, ← List.flatMap_append, List.take_append_drop]
    rw [e, List.take_append_of_le_length (by rw [hl]; simp; omega), List.take_of_length_le (by rw [hl]; simp; omega)]
  refine ⟨by rw [hl]; simp; omega, ?_⟩
  rcases h.2 with ⟨h1, h2⟩ | ⟨g, cap, cur, he, hb, hh, hnc, hcm, hcs, htk⟩
  · injection h1 with h1 _ h3
    subst h1
    subst h3
    have : K = 0 := by omega
    subst this
    exact .inl ⟨rfl, rfl⟩
  · injection he with he1 _ he3
    subst he1
    subst he3
    refine .inr ⟨g, cq, cur, rfl, hb, hh, by omega, hcm, hcs, ?_⟩
    rw [← ht, ← htk, List.take_take, Nat.min_eq_left (by omega)]

def TornInv (k : Dk) (w0 : World) (B2 g n c base : Nat) (done : List Wt) (wr : World) : Prop :=
  wr.ownsRow base 5 1 (.slice (some ⟨g, 0, none⟩) n c) n ((layAll k.L (wdat done)).map bv) ∧ wr.cell? ⟨B2, 0, none⟩ = some (.slice (some ⟨g, 0, none⟩) n c) ∧ DiskAt wr k ∧ Keeps [g] w0 wr

theorem torn_again (k : Dk) (w0 : World) (B2 g n c base : Nat) (Aq : Option Addr) (cq K : Nat) (h : DiskAt w0 k) (hn : k.L.length = n) (hr : w0.ownsRow base 5 1 (.slice (some ⟨g, 0, none⟩) n c) n (k.L.map bv)) (hB : w0.cell? ⟨B2, 0, none⟩ = some (.slice (some ⟨g, 0, none⟩) n c))
    (hg : g ∉ k.all) (hgB : g ≠ B2) (hq : k.q = .slice Aq k.W.length cq) (hK : K ≤ k.W.length) (hW : k.W.length ≤ 1000000) :
    Calls Try.prog 39 #[.slice Aq K cq, .func (.func 52) #[] #[.pointer (some ⟨B2, 0, none⟩)]] w0 fun e w' => e = .returned (.tuple #[]) ∧ TornInv k w0 B2 g n c base (k.W.take K) w' := by
  refine doagain_TornFn (.pointer (some ⟨B2, 0, none⟩)) Aq cq K (k.W.take K) (TornInv k w0 B2 g n c base) w0 (by simp; omega) (by omega) ⟨hr, hB, h, Keeps.refl _ _⟩ ?_ ?_ ?_ ?_
  · intro done wr hI
    have := hI.2.2.1.wa
    rw [hq] at this
    exact own_take this rfl hK
  · intro done wr o hI
    exact ⟨hI.1.alloc _, (World.cell?_alloc_lt wr o _ (lt_of_cell hI.2.1)).trans hI.2.1, hI.2.2.1.grow ((Keeps.refl [] wr).alloc _), hI.2.2.2.alloc _⟩
  · intro x hx
    obtain ⟨A, c, e, _⟩ := (h.fit x (List.mem_of_mem_take hx)).1
    exact ⟨A, _, c, e⟩
  · intro done x rest wr hx hI
    have hxm : x ∈ k.W := List.mem_of_mem_take (i := K) (by rw [hx]; simp)
    have hfit := hI.2.2.1.fit x hxm
    have hlen : (layAll k.L (wdat done)).length = n := by
      refine length_layAll hn fun y hy => ?_
      obtain ⟨z, hz, rfl⟩ := List.mem_map.1 hy
      have := (h.fit z (List.mem_of_mem_take (i := K) (by rw [hx]; simp [hz]))).2.1
      rw [← hn, h.len]
      exact this
    refine (tornfn_any B2 g c x.off n (layAll k.L (wdat done)) x.v x.xs base wr hlen hI.1 hI.2.1 hfit.1 (by rw [← hn, h.len]; exact hfit.2.1)).mono ?_
    rintro e w' ⟨rfl, h1, h2⟩
    refine ⟨rfl, ?_, ?_, hI.2.2.1.keep h2 ?_, hI.2.2.2.trans' h2⟩
    · have e2 : layAll k.L (wdat (done ++ [x])) = laid (layAll k.L (wdat done)) x.off x.xs := by rw [wdat, List.map_append]; exact layAll_snoc _ _ _
      rw [e2]
      exact h1
    · exact (h2.cell (p := ⟨B2, 0, none⟩) (lt_of_cell hI.2.1) (by simp; exact fun e => hgB e.symm)).trans hI.2.1
    · intro b hb
      simp
      rintro rfl
      exact hg hb

end Go.Proofs.Ytadpomclnhemoaa
