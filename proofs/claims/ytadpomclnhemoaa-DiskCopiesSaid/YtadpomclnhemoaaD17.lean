/- Same: are two disks the same? -/
import Derived.Test.YtadpomclnhemoaaD16
import Derived.Deep.RegionHeld3
namespace Go.Proofs.Ytadpomclnhemoaa
open Go.RowKit
set_option linter.unusedVariables false

def sameDat (d e : Dat) : Bool := [d.S == e.S, d.L == e.L, sameWs d.W e.W, (d.lim : Int) == (e.lim : Int), d.left == e.left].all id

theorem DiskAt.offs {w : World} {k : Dk} (h : DiskAt w k) : ∀ x ∈ k.W, BytesAt w x.v x.xs ∧ x.off ≤ 262144 := by
  intro x hx
  obtain ⟨h1, h2, _⟩ := h.fit x hx
  have := h.big
  exact ⟨h1, by omega⟩

theorem fivecells {w : World} (t : TypeId) (a b c d e : Bool) : ∀ i x, [a, b, c, d, e][i]? = some x → (w.alloc (.cells #[.bool a, .bool b, .bool c, .bool d, .bool e] t)).cell? ⟨w.heap.size, i, none⟩ = some (.bool x) := by
  intro i x h
  rw [World.cell?_alloc_new]
  match i, h with
  | 0, h => simp at h; simp [h]
  | 1, h => simp at h; simp [h]
  | 2, h => simp at h; simp [h]
  | 3, h => simp at h; simp [h]
  | 4, h => simp at h; simp [h]

theorem alltrue5 (w : World) (t : TypeId) (a b c d e : Bool) : Calls Try.prog 46 #[.slice (some ⟨w.heap.size, 0, none⟩) 5 5] (w.alloc (.cells #[.bool a, .bool b, .bool c, .bool d, .bool e] t)) fun r w' => r = .returned (.bool ([a, b, c, d, e].all id)) ∧ (w.alloc (.cells #[.bool a, .bool b, .bool c, .bool d, .bool e] t)) = w' :=
  alltrue_any w.heap.size 5 [a, b, c, d, e] _ (by simp) (fivecells t a b c d e)

set_option maxHeartbeats 4000000 in
theorem same_any (k m : Dk) (w : World) (h : DiskAt w k) (g : DiskAt w m) (hW : k.W.length ≤ 1000000) (hV : m.W.length ≤ 1000000) :
    Calls Try.prog 24 #[.pointer (some ⟨k.p, 0, none⟩), .pointer (some ⟨m.p, 0, none⟩)] w fun e w' => e = .returned (.bool (sameDat k.dat m.dat)) ∧ Below w.heap.size w w' := by
  have M1 := Lib.hid (missing_not _ _ _ _ w h.c0 h.pos (by have := h.big; omega))
  have M2 := Lib.hid (missing_not _ _ _ _ w g.c0 g.pos (by have := g.big; omega))
  have a0 := h.c0
  have a1 := h.c1
  have a2 := h.c2
  have a3 := h.c3
  have a4 := h.c4
  have b0 := g.c0
  have b1 := g.c1
  have b2 := g.c2
  have b3 := g.c3
  have b4 := g.c4
  obtain ⟨Aq, cq, hqv⟩ := own_slice h.wa
  obtain ⟨Bq, dq, hqw⟩ := own_slice g.wa
  rw [hqv] at a2
  rw [hqw] at b2
  have hwa := h.wa
  have hwb := g.wa
  rw [hqv] at hwa
  rw [hqw] at hwb
  have HD := Lib.hid h
  have GD := Lib.hid g
  have HWA := Lib.hid hwa
  have HWB := Lib.hid hwb
  have hkp := lt_of_heap h.blk
  have hmp := lt_of_heap g.blk
  have EF := Lib.hid (equalfunc_any Aq Bq k.W.length m.W.length cq dq k.W m.W w.drew hwa.drew hwb.drew rfl rfl hW hV (fun x hx => ⟨(h.offs x hx).1.grow (Keeps.refl [] w).drew, (h.offs x hx).2⟩) (fun x hx => ⟨(g.offs x hx).1.grow (Keeps.refl [] w).drew, (g.offs x hx).2⟩))
  clear h g hqv hqw hwa hwb
  go_enter Try.func24, Try.ntmps24
  go_wp2_with fail
  refine M1.out.mono ?_
  rintro e w' ⟨rfl, rfl⟩
  go_wp2_with fail
  refine M2.out.mono ?_
  rintro e w' ⟨rfl, rfl⟩
  clear M1 M2
  go_wp2_with fail
  go_region_held3 (fun w' => w'.cell? ⟨k.p, 0, none⟩ = some (.slice (some ⟨k.s, 0, none⟩) k.S.length k.cs) ∧ w'.cell? ⟨k.p, 1, none⟩ = some (.slice (some ⟨k.l, 0, none⟩) k.L.length k.cl) ∧ w'.cell? ⟨k.p, 2, none⟩ = some (.slice Aq k.W.length cq) ∧ w'.cell? ⟨k.p, 3, none⟩ = some (.int .i64 (k.lim : Int)) ∧ w'.cell? ⟨k.p, 4, none⟩ = some (.int .i64 k.left)
      ∧ w'.cell? ⟨m.p, 0, none⟩ = some (.slice (some ⟨m.s, 0, none⟩) m.S.length m.cs) ∧ w'.cell? ⟨m.p, 1, none⟩ = some (.slice (some ⟨m.l, 0, none⟩) m.L.length m.cl) ∧ w'.cell? ⟨m.p, 2, none⟩ = some (.slice Bq m.W.length dq) ∧ w'.cell? ⟨m.p, 3, none⟩ = some (.int .i64 (m.lim : Int)) ∧ w'.cell? ⟨m.p, 4, none⟩ = some (.int .i64 m.left)) (go_keep)
    (first
      | (go_at_call_of 47 (Value.slice (some ⟨k.s, 0, none⟩) k.S.length k.cs); refine (equal_any _ _ k.S m.S _ ((BytesAt.of_own HD.out.st).grow (Keeps.refl [] w).drew) ((BytesAt.of_own GD.out.st).grow (Keeps.refl [] w).drew)).mono ?_; rintro e w' ⟨rfl, rfl⟩)
      | (go_at_call_of 47 (Value.slice (some ⟨k.l, 0, none⟩) k.L.length k.cl); refine (equal_any _ _ k.L m.L _ ((BytesAt.of_own HD.out.la).grow (Keeps.refl [] w).drew) ((BytesAt.of_own GD.out.la).grow (Keeps.refl [] w).drew)).mono ?_; rintro e w' ⟨rfl, rfl⟩)
      | (go_at_call 48; refine EF.out.mono ?_; rintro e w1 ⟨rfl, hb1⟩; have q0 := (hb1.cell (p := ⟨k.p, 0, none⟩) hkp).trans a0; have q1 := (hb1.cell (p := ⟨k.p, 1, none⟩) hkp).trans a1; have q2 := (hb1.cell (p := ⟨k.p, 2, none⟩) hkp).trans a2; have q3 := (hb1.cell (p := ⟨k.p, 3, none⟩) hkp).trans a3; have q4 := (hb1.cell (p := ⟨k.p, 4, none⟩) hkp).trans a4; have r0 := (hb1.cell (p := ⟨m.p, 0, none⟩) hmp).trans b0; have r1 := (hb1.cell (p := ⟨m.p, 1, none⟩) hmp).trans b1; have r2 := (hb1.cell (p := ⟨m.p, 2, none⟩) hmp).trans b2; have r3 := (hb1.cell (p := ⟨m.p, 3, none⟩) hmp).trans b3; have r4 := (hb1.cell (p := ⟨m.p, 4, none⟩) hmp).trans b4; have HB1 := Lib.hid hb1; clear hb1 EF)
      | (go_at_call 46; refine (alltrue5 w1 _ _ _ _ _ _).mono ?_; rintro e w2 ⟨rfl, rfl⟩))
  have hbw : Below w.heap.size w w1 := (Below.refl _ _).drew.trans HB1.out
  have hsz := hbw.size
  have HBW := Lib.hid hbw
  clear hbw q0 q1 q2 q3 q4 r0 r1 r2 r3 r4 a0 a1 a2 a3 a4 b0 b1 b2 b3 b4
  go_wp2
  go_ret
  exact ⟨by simp [sameDat, Dk.dat, wdat], HBW.out.alloc hsz _⟩

end Go.Proofs.Ytadpomclnhemoaa
