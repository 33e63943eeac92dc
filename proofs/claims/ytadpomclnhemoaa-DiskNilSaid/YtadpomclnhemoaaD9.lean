/- Sync: what stands lasts, and nothing waits. -/
import Derived.Test.YtadpomclnhemoaaD8
namespace Go.Proofs.Ytadpomclnhemoaa
open Go.RowKit
set_option linter.unusedVariables false

def Dk.lasts (k : Dk) (L : List UInt8) : Dk := { k with L := L }

theorem DiskAt.putL {w w' : World} {k : Dk} (h : DiskAt w k) {L : List UInt8} (hl : L.length = k.L.length) (ho : w'.ownsRow 0 5 1 (.slice (some ⟨k.l, 0, none⟩) k.L.length k.cl) k.L.length (L.map bv)) (hk : Keeps [k.l] w w') : DiskAt w' (k.lasts L) := by
  have hs1 : k.p ∉ [k.l] := by simp; exact h.npl
  have e : (k.lasts L).lv = k.lv := by simp [Dk.lasts, Dk.lv, hl]
  refine ⟨?_, own_keep h.st hk ?_, ?_, own_keep h.wa hk ?_, h.sl, ?_, h.pos, h.big, ?_, h.lim, h.lo, h.hi⟩
  · have := (hk.block _ (lt_of_heap h.blk) hs1).trans h.blk
    simp only [Dk.cells, e]
    exact this
  · intro b hb; simp only [Dk.sv, Value.ownBlock, Option.some.injEq] at hb; subst hb; have := h.sl; simp; exact this
  · rw [e, show (k.lasts L).L = L from rfl, hl]
    exact ho
  · intro b hb; simp only [List.mem_singleton]; rintro rfl; exact h.nlq hb
  · rw [show (k.lasts L).L = L from rfl, hl]; exact h.len
  · intro x hx
    obtain ⟨a1, a2, a3⟩ := h.fit x hx
    refine ⟨a1.keep hk ?_, a2, fun b hb => ⟨Nat.lt_of_lt_of_le (a3 b hb).1 hk.size, (a3 b hb).2⟩⟩
    intro b hb
    have := (a3 b hb).2
    simp [Dk.fp] at this
    simp
    exact this.2.2.1

theorem syncfn_any (k : Dk) (B0 off : Nat) (v : Value) (xs : List UInt8) (w : World) (h : DiskAt w k) (hB : w.cell? ⟨B0, 0, none⟩ = some (.pointer (some ⟨k.p, 0, none⟩))) (hv : BytesAt w v xs) (hf : off + xs.length ≤ k.L.length) :
    Calls Try.prog 40 #[.agg #[.int .i64 (off : Int), v], .pointer (some ⟨B0, 0, none⟩)] w fun e w' => e = .returned (.tuple #[]) ∧ DiskAt w' (k.lasts (laid k.L off xs)) ∧ Keeps [k.l] w w' := by
  have c1 := h.c1
  have hlt := lt_of_heap h.blk
  have hB0 := lt_of_cell hB
  have hv0 := hv
  obtain ⟨A, c, hv1, _⟩ := hv0
  subst hv1
  have HD := Lib.hid h
  have HV := Lib.hid hv
  clear h hv
  go_enter Try.func40, Try.ntmps40
  go_wp2
  refine region_tail 5 (by kernel_rfl) (by kernel_rfl) ?_
  simp only [List.take_succ_cons, List.take_zero, List.drop_succ_cons, List.drop_zero]
  repeat still_step
  refine wpStill_nil ?_
  go_wp2_with (go_at_call 41; refine (put_any k.l k.cl k.L 0 off _ xs _ (HD.out.grow (((Keeps.refl [] w)).alloc _).drew).la hf (HV.out.grow (((Keeps.refl [] w)).alloc _).drew)).mono ?_; rintro e w1 ⟨rfl, ho, hk⟩)
  go_end0
  refine ⟨rfl, ?_, ((((Keeps.refl _ w)).alloc _).drew).trans' hk⟩
  exact (HD.out.grow (((Keeps.refl [] w)).alloc _).drew).putL (length_laid hf) ho hk

/-- Rows of writes laid, one behind the other. -/
def layAll (L : List UInt8) (W : List (Nat × List UInt8)) : List UInt8 := W.foldl (fun s x => laid s x.1 x.2) L
theorem layAll_snoc (L : List UInt8) (W : List (Nat × List UInt8)) (x : Nat × List UInt8) : layAll L (W ++ [x]) = laid (layAll L W) x.1 x.2 := by simp [layAll]
theorem length_layAll {L : List UInt8} {n : Nat} (hL : L.length = n) : ∀ {W : List (Nat × List UInt8)}, (∀ x ∈ W, x.1 + x.2.length ≤ n) → (layAll L W).length = n := by
  intro W
  induction W generalizing L with
  | nil => intro _; exact hL
  | cons y W ih =>
    intro h
    have h1 := h y (by simp)
    exact ih (L := laid L y.1 y.2) (by rw [length_laid (by omega)]; exact hL) fun x hx => h x (by simp [hx])

def wdat (W : List Wt) : List (Nat × List UInt8) := W.map fun x => (x.off, x.xs)
theorem wdat_fit {w : World} {k : Dk} (h : DiskAt w k) : ∀ x ∈ wdat k.W, x.1 + x.2.length ≤ k.S.length := by
  intro x hx
  obtain ⟨y, hy, rfl⟩ := List.mem_map.1 hx
  exact (h.fit y hy).2.1

def Dat.sync (d : Dat) : Dat := ⟨d.S, layAll d.L d.W, [], d.lim, lessOne d.left, d.done + 1⟩

/-- What doAgain keeps while it lays the writes into what lasts. -/
def SyncInv (k : Dk) (w : World) (B0 : Nat) (done : List Wt) (wr : World) : Prop :=
  DiskAt wr (k.lasts (layAll k.L (wdat done))) ∧ wr.cell? ⟨B0, 0, none⟩ = some (.pointer (some ⟨k.p, 0, none⟩)) ∧ Keeps [k.l] w wr

def Dk.still (k : Dk) (q : Value) : Dk := { k with q := q, W := [] }

theorem DiskAt.still {w : World} {k : Dk} (h : DiskAt w k) : DiskAt (w.setCell ⟨k.p, 2, none⟩ (.slice none 0 0)) (k.still (.slice none 0 0)) := by
  have hk : Keeps [k.p] w (w.setCell ⟨k.p, 2, none⟩ (.slice none 0 0)) := (Keeps.refl _ _).setCell (by simp) _
  refine ⟨?_, own_keep h.st hk ?_, own_keep h.la hk ?_, World.ownsRow_nil _ _ _ _, h.sl, h.len, h.pos, h.big, ?_, h.lim, h.lo, h.hi⟩
  · rw [show (k.still (.slice none 0 0)).p = k.p from rfl, blk_set h.blk 2]
    simp [Dk.cells, Dk.still, Dk.sv, Dk.lv]
  · intro b hb; simp only [Dk.sv, Value.ownBlock, Option.some.injEq] at hb; subst hb; have := h.nps; simp; exact fun e => this e.symm
  · intro b hb; simp only [Dk.lv, Value.ownBlock, Option.some.injEq] at hb; subst hb; have := h.npl; simp; exact fun e => this e.symm
  · intro x hx; simp [Dk.still] at hx

theorem sync_end {w w1 w2 : World} {k : Dk} {o : Obj} {L : List UInt8} (h : DiskAt w k) (hk1 : Keeps [k.l] (w.alloc o) w1)
    (h2 : DiskAt w2 (((k.lasts L).still (.slice none 0 0)).nums k.lim (lessOne k.left) (k.done + 1))) (hk2 : Keeps [k.p] (w1.setCell ⟨k.p, 2, none⟩ (.slice none 0 0)) w2) :
    Goes w k w2 (((k.lasts L).still (.slice none 0 0)).nums k.lim (lessOne k.left) (k.done + 1)) := by
  refine ⟨h2, rfl, ?_, ?_, ?_⟩
  · intro b hb
    simp [Dk.fp, Dk.lasts, Dk.still, Dk.nums, Value.ownBlock] at hb
    left
    simp only [Dk.fp, List.mem_cons]
    rcases hb with hb | hb | hb
    · exact .inl hb
    · exact .inr (.inl hb)
    · exact .inr (.inr (.inl hb))
  · intro b hb
    simp [Dk.all, Dk.fp, Dk.lasts, Dk.still, Dk.nums, Value.ownBlock] at hb
    left
    simp only [Dk.all, Dk.fp, List.cons_append, List.mem_cons]
    rcases hb with hb | hb | hb
    · exact .inl hb
    · exact .inr (.inl hb)
    · exact .inr (.inr (.inl hb))
  · have a1 : Keeps k.fp w w1 := (((Keeps.refl _ w).alloc o).trans' hk1).mono (by simp [Dk.fp])
    have a2 : Keeps k.fp w (w1.setCell ⟨k.p, 2, none⟩ (.slice none 0 0)) := a1.setCell (by simp [Dk.fp]) _
    exact a2.trans hk2 (by simp [Dk.fp])

set_option maxHeartbeats 400000 in
theorem sync_yes (k : Dk) (w : World) (h : DiskAt w k) (hl : k.left ≠ 0) (hW : k.W.length ≤ 1000000) (hd : k.done < 4611686018427387904) :
    Calls Try.prog 18 #[.pointer (some ⟨k.p, 0, none⟩)] w fun e w' => e = .returned (.int .i64 0) ∧ ∃ k', Goes w k w' k' ∧ k'.dat = k.dat.sync ∧ k'.W.length = 0 := by
  have c0 := h.c0
  have c2 := h.c2
  have c4 := h.c4
  have hp := h.pos
  have hb := h.big
  have hpl := lt_of_heap h.blk
  have hl0 : (k.left == 0) = false := by simpa using hl
  have c0' := fun o : Obj => (World.cell?_alloc_lt w o ⟨k.p, 0, none⟩ hpl).trans c0
  obtain ⟨Aq, cq, hqv⟩ := own_slice h.wa
  rw [hqv] at c2
  have HQ := Lib.hid hqv
  have HD := Lib.hid h
  have HDA := Lib.hid (doagain_SyncFn (.pointer (some ⟨w.heap.size, 0, none⟩)) Aq cq k.W.length k.W (SyncInv k (w.alloc (.cells #[.pointer (some ⟨k.p, 0, none⟩)] 25)) w.heap.size) (w.alloc (.cells #[.pointer (some ⟨k.p, 0, none⟩)] 25)) rfl hW
    ⟨h.grow ((Keeps.refl [] w).alloc _), by rw [World.cell?_alloc_new]; rfl, Keeps.refl _ _⟩
    (fun done wr hI => by have := hI.1.wa; rw [show (k.lasts (layAll k.L (wdat done))).q = k.q from rfl, hqv] at this; exact this)
    (fun done wr o hI => ⟨hI.1.grow ((Keeps.refl [] wr).alloc _), (World.cell?_alloc_lt wr o _ (lt_of_cell hI.2.1)).trans hI.2.1, hI.2.2.alloc _⟩)
    (fun x hx => by obtain ⟨A, c, e, _⟩ := (h.fit x hx).1; exact ⟨A, _, c, e⟩)
    (fun done x rest wr hx hI => by
      have hfit := hI.1.fit x (by show x ∈ k.W; rw [hx]; simp)
      refine (syncfn_any (k.lasts (layAll k.L (wdat done))) w.heap.size x.off x.v x.xs wr hI.1 hI.2.1 hfit.1 (by rw [hI.1.len]; exact hfit.2.1)).mono ?_
      rintro e w' ⟨rfl, h1, h2⟩
      refine ⟨rfl, ?_, ?_, hI.2.2.trans' h2⟩
      · have e2 : layAll k.L (wdat (done ++ [x])) = laid (layAll k.L (wdat done)) x.off x.xs := by rw [wdat, List.map_append]; exact layAll_snoc _ _ _
        rw [e2]
        exact h1
      · have hne : w.heap.size ∉ [k.l] := by have : k.l < w.heap.size := (h.la.lt _ rfl).2; simp; omega
        exact (h2.cell (p := ⟨w.heap.size, 0, none⟩) (lt_of_cell hI.2.1) hne).trans hI.2.1))
  clear h hl hqv
  go_enter Try.func18, Try.ntmps18
  go_wp2
  refine wp_scope_once 0 rfl ?_
  go_wp2_with (first
    | (go_at_call 33; refine (missing_not _ _ _ _ _ (c0' _) (by omega) (by omega)).mono ?_; rintro e w' ⟨rfl, rfl⟩))
  refine HDA.out.mono ?_
  rintro e w1 ⟨rfl, hd1, hb1, hk1⟩
  have d2 := hd1.c2
  have f2 := hd1.free 2
  rw [show (k.lasts (layAll k.L (wdat k.W))).p = k.p from rfl] at d2 f2
  have HS := Lib.hid hd1.still
  have HK1 := Lib.hid hk1
  have HD1 := Lib.hid hd1
  clear hd1 hk1 HDA
  go_wp2_with fail
  refine (count_any _ _ HS.out hd).mono ?_
  rintro e w2 ⟨rfl, hd3, hk3⟩
  have HE := Lib.hid (sync_end HD.out HK1.out hd3 hk3)
  clear hd3 hk3
  go_wp2
  simp only [Exit.jump]
  go_ret
  exact ⟨rfl, _, HE.out, by simp [Dk.dat, Dat.sync, Dk.nums, Dk.still, Dk.lasts, wdat], by simp [Dk.nums, Dk.still]⟩

theorem sync_stop (k : Dk) (w : World) (h : DiskAt w k) (hl : k.left = 0) :
    Calls Try.prog 18 #[.pointer (some ⟨k.p, 0, none⟩)] w fun e w' => e = .returned (.int .i64 111) ∧ Keeps [] w w' := by
  have c0 := h.c0
  have c4 := h.c4
  have hp := h.pos
  have hb := h.big
  have hpl := lt_of_heap h.blk
  have hl0 : (k.left == 0) = true := by simpa using hl
  have c0' := fun o : Obj => (World.cell?_alloc_lt w o ⟨k.p, 0, none⟩ hpl).trans c0
  clear h hl
  go_enter Try.func18, Try.ntmps18
  go_wp2
  refine wp_scope_once 0 rfl ?_
  go_wp2_with (first
    | (go_at_call 33; refine (missing_not _ _ _ _ _ (c0' _) (by omega) (by omega)).mono ?_; rintro e w' ⟨rfl, rfl⟩))
  go_step3
  refine ⟨rfl, ?_⟩
  go_wp2
  rw [Exit.noGoto_ret]
  go_ret
  exact ⟨rfl, (Keeps.refl _ _).alloc _⟩

end Go.Proofs.Ytadpomclnhemoaa
