/- Texts of one proof, laid together: D8 D9 D10 D11. -/
import Derived.Test.YthgpjlmdllihmaaGreatM10
import Derived.Deep.QuietTactic
import Derived.BigQuiet
/- doAgain over the writes that wait, whatever closure it is handed. -/
namespace Go.Proofs.YthgpjlmdllihmaaGreat
open Go.RowKit
set_option linter.unusedVariables false
set_option maxRecDepth 100000

theorem wcells_at {W done rest : List Wt} {x : Wt} (h : W = done ++ x :: rest) : (wcells W)[done.length * 2]? = some (.int .i64 (x.off : Int)) ∧ (wcells W)[done.length * 2 + 1]? = some x.v := by
  have hl : ∀ D : List Wt, (wcells D).length = D.length * 2 := by
    intro D
    induction D with
    | nil => rfl
    | cons y D ih => simp only [wcells, List.flatMap_cons, List.length_append, List.length_cons, List.length_nil] at ih ⊢; omega
  have e : wcells W = wcells done ++ (.int .i64 (x.off : Int) :: x.v :: wcells rest) := by subst h; simp [wcells]
  rw [e, List.getElem?_append_right (by rw [hl]; omega), List.getElem?_append_right (by rw [hl]; omega), hl]
  simp

set_option maxHeartbeats 400000 in
theorem doagain_SyncFn (b : Value) (Aq : Option Addr) (cq n : Nat) (W : List Wt) (I : List Wt → World → Prop) (w : World) (hn : W.length = n) (hW : n ≤ 1000000) (h0 : I [] w)
    (hrow : ∀ done wr, I done wr → wr.ownsRow 0 86 2 (.slice Aq n cq) n (wcells W)) (hal : ∀ done wr o, I done wr → I done (wr.alloc o)) (hsl : ∀ x ∈ W, ∃ A m c, x.v = .slice A m c)
    (hstep : ∀ done x rest wr, W = done ++ x :: rest → I done wr → Calls Tryz.prog 81 #[.agg #[.int .i64 (x.off : Int), x.v], b] wr fun e w' => e = .returned (.tuple #[]) ∧ I (done ++ [x]) w') :
    Calls Tryz.prog 50 #[.slice Aq n cq, .func (.func 81) #[] #[b]] w fun e w' => e = .returned (.tuple #[]) ∧ I W w' := by
  have HN := Lib.hid hn
  have H0 := Lib.hid h0
  have HR := Lib.hid hrow
  have HA := Lib.hid hal
  have HS := Lib.hid hstep
  have HL := Lib.hid hsl
  clear hn h0 hrow hal hstep hsl
  go_enter Tryz.func50, Tryz.ntmps50
  go_wp2
  go_loopw [8] (fun i wr => ∃ j : Nat, i = .int .i64 (j : Int) ∧ j ≤ n ∧ Hid (I (W.take j) wr)) (fun i _ => n - (intOf i).toNat)
  case atStart => exact ⟨0, rfl, Nat.zero_le _, show I _ _ by simpa using H0.out⟩
  case round =>
    obtain ⟨j, rfl, hj, HI⟩ := hrel
    by_cases hlt : j < n
    · obtain ⟨x, rest, hx⟩ : ∃ x rest, W = W.take j ++ x :: rest := by
        refine ⟨W[j]'(by have := HN.out; omega), W.drop (j + 1), ?_⟩
        rw [← List.drop_eq_getElem_cons, List.take_append_drop]
      have hlen : (W.take j).length = j := by have := HN.out; simp; omega
      have hcs := wcells_at hx
      rw [hlen] at hcs
      have hr := HR.out _ _ HI.out
      obtain ⟨g, cap, hv, _, hgl⟩ := hr.form (by omega)
      injection hv with hv1 _ hv3
      subst hv1
      subst hv3
      have hc0 := hr.cellAt (j * 2) (by omega)
      have hc1 := hr.cellAt (j * 2 + 1) (by omega)
      rw [hcs.1] at hc0
      rw [hcs.2] at hc1
      obtain ⟨A, m, c, hxv⟩ := HL.out x (by rw [hx]; simp)
      rw [hxv] at hc1
      have HX := Lib.hid hx
      have HV := Lib.hid hxv
      have hnext : W.take (j + 1) = W.take j ++ [x] := by
        conv => lhs; rw [hx]
        rw [List.take_append, hlen, List.take_of_length_le (by omega), show j + 1 - j = 1 from by omega]
        simp
      have HNX := Lib.hid hnext
      clear hx hxv hnext hcs hr hlen
      go_wp2_with fail
      have hst := HS.out _ _ _ _ HX.out (HA.out _ _ (.cells #[.int .i64 (x.off : Int), .slice A m c] 86) HI.out)
      rw [HV.out] at hst
      refine hst.mono ?_
      rintro e w2 ⟨rfl, hI2⟩
      rw [← HNX.out] at hI2
      have HI2 : Hid (I (W.take (j + 1)) w2) := hI2
      clear hst hI2
      go_wp2
      go_roundw
      case rel => exact ⟨j + 1, by go_num, by omega, HI2⟩
      case measure => simp [intOf]; omega
    · go_wp2
      go_end0
      have hjn : j = n := by omega
      subst hjn
      refine ⟨rfl, ?_⟩
      have := HI.out
      rwa [List.take_of_length_le (by have := HN.out; omega)] at this

set_option maxHeartbeats 400000 in
theorem doagain_TornFn (b : Value) (Aq : Option Addr) (cq n : Nat) (W : List Wt) (I : List Wt → World → Prop) (w : World) (hn : W.length = n) (hW : n ≤ 1000000) (h0 : I [] w)
    (hrow : ∀ done wr, I done wr → wr.ownsRow 0 86 2 (.slice Aq n cq) n (wcells W)) (hal : ∀ done wr o, I done wr → I done (wr.alloc o)) (hsl : ∀ x ∈ W, ∃ A m c, x.v = .slice A m c)
    (hstep : ∀ done x rest wr, W = done ++ x :: rest → I done wr → Calls Tryz.prog 51 #[.agg #[.int .i64 (x.off : Int), x.v], b] wr fun e w' => e = .returned (.tuple #[]) ∧ I (done ++ [x]) w') :
    Calls Tryz.prog 50 #[.slice Aq n cq, .func (.func 51) #[] #[b]] w fun e w' => e = .returned (.tuple #[]) ∧ I W w' := by
  have HN := Lib.hid hn
  have H0 := Lib.hid h0
  have HR := Lib.hid hrow
  have HA := Lib.hid hal
  have HS := Lib.hid hstep
  have HL := Lib.hid hsl
  clear hn h0 hrow hal hstep hsl
  go_enter Tryz.func50, Tryz.ntmps50
  go_wp2
  go_loopw [8] (fun i wr => ∃ j : Nat, i = .int .i64 (j : Int) ∧ j ≤ n ∧ Hid (I (W.take j) wr)) (fun i _ => n - (intOf i).toNat)
  case atStart => exact ⟨0, rfl, Nat.zero_le _, show I _ _ by simpa using H0.out⟩
  case round =>
    obtain ⟨j, rfl, hj, HI⟩ := hrel
    by_cases hlt : j < n
    · obtain ⟨x, rest, hx⟩ : ∃ x rest, W = W.take j ++ x :: rest := by
        refine ⟨W[j]'(by have := HN.out; omega), W.drop (j + 1), ?_⟩
        rw [← List.drop_eq_getElem_cons, List.take_append_drop]
      have hlen : (W.take j).length = j := by have := HN.out; simp; omega
      have hcs := wcells_at hx
      rw [hlen] at hcs
      have hr := HR.out _ _ HI.out
      obtain ⟨g, cap, hv, _, hgl⟩ := hr.form (by omega)
      injection hv with hv1 _ hv3
      subst hv1
      subst hv3
      have hc0 := hr.cellAt (j * 2) (by omega)
      have hc1 := hr.cellAt (j * 2 + 1) (by omega)
      rw [hcs.1] at hc0
      rw [hcs.2] at hc1
      obtain ⟨A, m, c, hxv⟩ := HL.out x (by rw [hx]; simp)
      rw [hxv] at hc1
      have HX := Lib.hid hx
      have HV := Lib.hid hxv
      have hnext : W.take (j + 1) = W.take j ++ [x] := by
        conv => lhs; rw [hx]
        rw [List.take_append, hlen, List.take_of_length_le (by omega), show j + 1 - j = 1 from by omega]
        simp
      have HNX := Lib.hid hnext
      clear hx hxv hnext hcs hr hlen
      go_wp2_with fail
      have hst := HS.out _ _ _ _ HX.out (HA.out _ _ (.cells #[.int .i64 (x.off : Int), .slice A m c] 86) HI.out)
      rw [HV.out] at hst
      refine hst.mono ?_
      rintro e w2 ⟨rfl, hI2⟩
      rw [← HNX.out] at hI2
      have HI2 : Hid (I (W.take (j + 1)) w2) := hI2
      clear hst hI2
      go_wp2
      go_roundw
      case rel => exact ⟨j + 1, by go_num, by omega, HI2⟩
      case measure => simp [intOf]; omega
    · go_wp2
      go_end0
      have hjn : j = n := by omega
      subst hjn
      refine ⟨rfl, ?_⟩
      have := HI.out
      rwa [List.take_of_length_le (by have := HN.out; omega)] at this

end Go.Proofs.YthgpjlmdllihmaaGreat
/- Sync: what stands lasts, and nothing waits. -/
namespace Go.Proofs.YthgpjlmdllihmaaGreat
open Go.RowKit
set_option linter.unusedVariables false
set_option maxRecDepth 100000

def Dk.lasts (k : Dk) (L : List UInt8) : Dk := { k with L := L }

theorem DiskAt.putL {w w' : World} {k : Dk} (h : DiskAt w k) {L : List UInt8} (hl : L.length = k.L.length) (ho : w'.ownsRow 0 5 1 (.slice (some ⟨k.l, 0, none⟩) k.L.length k.cl) k.L.length (L.map bv)) (hk : Keeps [k.l] w w') : DiskAt w' (k.lasts L) := by
  have hs1 : k.p ∉ [k.l] := by simp; exact h.npl
  have e : (k.lasts L).lv = k.lv := by simp [Dk.lasts, Dk.lv, hl]
  refine ⟨?_, own_keep h.st hk ?_, ?_, own_keep h.wa hk ?_, h.sl, ?_, h.pos, h.big, ?_, h.lim, h.lo, h.hi⟩
  · have := (hk.block _ (lt_of_heap h.blk) hs1).trans h.blk
    simp only [Dk.cells, e]
    exact this
  · intro b hb; simp only [Dk.sv, Value.ownBlock, Option.some.injEq] at hb; subst hb; have := h.sl; simp; exact this
  · rw [e, show (k.lasts L).L = L from rfl, hl]
    exact ho
  · intro b hb; simp only [List.mem_singleton]; rintro rfl; exact h.nlq hb
  · rw [show (k.lasts L).L = L from rfl, hl]; exact h.len
  · intro x hx
    obtain ⟨a1, a2, a3⟩ := h.fit x hx
    refine ⟨a1.keep hk ?_, a2, fun b hb => ⟨Nat.lt_of_lt_of_le (a3 b hb).1 hk.size, (a3 b hb).2⟩⟩
    intro b hb
    have := (a3 b hb).2
    simp [Dk.fp] at this
    simp
    exact this.2.2.1

theorem syncfn_any (k : Dk) (B0 off : Nat) (v : Value) (xs : List UInt8) (w : World) (h : DiskAt w k) (hB : w.cell? ⟨B0, 0, none⟩ = some (.pointer (some ⟨k.p, 0, none⟩))) (hv : BytesAt w v xs) (hf : off + xs.length ≤ k.L.length) :
    Calls Tryz.prog 81 #[.agg #[.int .i64 (off : Int), v], .pointer (some ⟨B0, 0, none⟩)] w fun e w' => e = .returned (.tuple #[]) ∧ DiskAt w' (k.lasts (laid k.L off xs)) ∧ Keeps [k.l] w w' := by
  have c1 := h.c1
  have hlt := lt_of_heap h.blk
  have hB0 := lt_of_cell hB
  have hv0 := hv
  obtain ⟨A, c, hv1, _⟩ := hv0
  subst hv1
  have HD := Lib.hid h
  have HV := Lib.hid hv
  clear h hv
  go_enter Tryz.func81, Tryz.ntmps81
  go_wp2
  refine region_tail 5 (by kernel_rfl) (by kernel_rfl) ?_
  simp only [List.take_succ_cons, List.take_zero, List.drop_succ_cons, List.drop_zero]
  repeat still_step
  refine wpStill_nil ?_
  go_wp2_with (go_at_call 52; refine (put_any k.l k.cl k.L 0 off _ xs _ (HD.out.grow (((Keeps.refl [] w)).alloc _).drew).la hf (HV.out.grow (((Keeps.refl [] w)).alloc _).drew)).mono ?_; rintro e w1 ⟨rfl, ho, hk⟩)
  go_end0
  refine ⟨rfl, ?_, ((((Keeps.refl _ w)).alloc _).drew).trans' hk⟩
  exact (HD.out.grow (((Keeps.refl [] w)).alloc _).drew).putL (length_laid hf) ho hk

/-- Rows of writes laid, one behind the other. -/
def layAll (L : List UInt8) (W : List (Nat × List UInt8)) : List UInt8 := W.foldl (fun s x => laid s x.1 x.2) L
theorem layAll_snoc (L : List UInt8) (W : List (Nat × List UInt8)) (x : Nat × List UInt8) : layAll L (W ++ [x]) = laid (layAll L W) x.1 x.2 := by simp [layAll]
theorem length_layAll {L : List UInt8} {n : Nat} (hL : L.length = n) : ∀ {W : List (Nat × List UInt8)}, (∀ x ∈ W, x.1 + x.2.length ≤ n) → (layAll L W).length = n := by
  intro W
  induction W generalizing L with
  | nil => intro _; exact hL
  | cons y W ih =>
    intro h
    have h1 := h y (by simp)
    exact ih (L := laid L y.1 y.2) (by rw [length_laid (by omega)]; exact hL) fun x hx => h x (by simp [hx])

def wdat (W : List Wt) : List (Nat × List UInt8) := W.map fun x => (x.off, x.xs)
theorem wdat_fit {w : World} {k : Dk} (h : DiskAt w k) : ∀ x ∈ wdat k.W, x.1 + x.2.length ≤ k.S.length := by
  intro x hx
  obtain ⟨y, hy, rfl⟩ := List.mem_map.1 hx
  exact (h.fit y hy).2.1

def Dat.sync (d : Dat) : Dat := ⟨d.S, layAll d.L d.W, [], d.lim, lessOne d.left, d.done + 1⟩

/-- What doAgain keeps while it lays the writes into what lasts. -/
def SyncInv (k : Dk) (w : World) (B0 : Nat) (done : List Wt) (wr : World) : Prop :=
  DiskAt wr (k.lasts (layAll k.L (wdat done))) ∧ wr.cell? ⟨B0, 0, none⟩ = some (.pointer (some ⟨k.p, 0, none⟩)) ∧ Keeps [k.l] w wr

def Dk.still (k : Dk) (q : Value) : Dk := { k with q := q, W := [] }

theorem DiskAt.still {w : World} {k : Dk} (h : DiskAt w k) : DiskAt (w.setCell ⟨k.p, 2, none⟩ (.slice none 0 0)) (k.still (.slice none 0 0)) := by
  have hk : Keeps [k.p] w (w.setCell ⟨k.p, 2, none⟩ (.slice none 0 0)) := (Keeps.refl _ _).setCell (by simp) _
  refine ⟨?_, own_keep h.st hk ?_, own_keep h.la hk ?_, World.ownsRow_nil _ _ _ _, h.sl, h.len, h.pos, h.big, ?_, h.lim, h.lo, h.hi⟩
  · rw [show (k.still (.slice none 0 0)).p = k.p from rfl, blk_set h.blk 2]
    simp [Dk.cells, Dk.still, Dk.sv, Dk.lv]
  · intro b hb; simp only [Dk.sv, Value.ownBlock, Option.some.injEq] at hb; subst hb; have := h.nps; simp; exact fun e => this e.symm
  · intro b hb; simp only [Dk.lv, Value.ownBlock, Option.some.injEq] at hb; subst hb; have := h.npl; simp; exact fun e => this e.symm
  · intro x hx; simp [Dk.still] at hx

theorem sync_end {w w1 w2 : World} {k : Dk} {o : Obj} {L : List UInt8} (h : DiskAt w k) (hk1 : Keeps [k.l] (w.alloc o) w1)
    (h2 : DiskAt w2 (((k.lasts L).still (.slice none 0 0)).nums k.lim (lessOne k.left) (k.done + 1))) (hk2 : Keeps [k.p] (w1.setCell ⟨k.p, 2, none⟩ (.slice none 0 0)) w2) :
    Goes w k w2 (((k.lasts L).still (.slice none 0 0)).nums k.lim (lessOne k.left) (k.done + 1)) := by
  refine ⟨h2, rfl, ?_, ?_, ?_⟩
  · intro b hb
    simp [Dk.fp, Dk.lasts, Dk.still, Dk.nums, Value.ownBlock] at hb
    left
    simp only [Dk.fp, List.mem_cons]
    rcases hb with hb | hb | hb
    · exact .inl hb
    · exact .inr (.inl hb)
    · exact .inr (.inr (.inl hb))
  · intro b hb
    simp [Dk.all, Dk.fp, Dk.lasts, Dk.still, Dk.nums, Value.ownBlock] at hb
    left
    simp only [Dk.all, Dk.fp, List.cons_append, List.mem_cons]
    rcases hb with hb | hb | hb
    · exact .inl hb
    · exact .inr (.inl hb)
    · exact .inr (.inr (.inl hb))
  · have a1 : Keeps k.fp w w1 := (((Keeps.refl _ w).alloc o).trans' hk1).mono (by simp [Dk.fp])
    have a2 : Keeps k.fp w (w1.setCell ⟨k.p, 2, none⟩ (.slice none 0 0)) := a1.setCell (by simp [Dk.fp]) _
    exact a2.trans hk2 (by simp [Dk.fp])

set_option maxHeartbeats 400000 in
theorem sync_yes (k : Dk) (w : World) (h : DiskAt w k) (hl : k.left ≠ 0) (hW : k.W.length ≤ 1000000) (hd : k.done < 4611686018427387904) :
    Calls Tryz.prog 64 #[.pointer (some ⟨k.p, 0, none⟩)] w fun e w' => e = .returned (.int .i64 0) ∧ ∃ k', Goes w k w' k' ∧ k'.dat = k.dat.sync ∧ k'.W.length = 0 := by
  have c0 := h.c0
  have c2 := h.c2
  have c4 := h.c4
  have hp := h.pos
  have hb := h.big
  have hpl := lt_of_heap h.blk
  have hl0 : (k.left == 0) = false := by simpa using hl
  have c0' := fun o : Obj => (World.cell?_alloc_lt w o ⟨k.p, 0, none⟩ hpl).trans c0
  obtain ⟨Aq, cq, hqv⟩ := own_slice h.wa
  rw [hqv] at c2
  have HQ := Lib.hid hqv
  have HD := Lib.hid h
  have HDA := Lib.hid (doagain_SyncFn (.pointer (some ⟨w.heap.size, 0, none⟩)) Aq cq k.W.length k.W (SyncInv k (w.alloc (.cells #[.pointer (some ⟨k.p, 0, none⟩)] 30)) w.heap.size) (w.alloc (.cells #[.pointer (some ⟨k.p, 0, none⟩)] 30)) rfl hW
    ⟨h.grow ((Keeps.refl [] w).alloc _), by rw [World.cell?_alloc_new]; rfl, Keeps.refl _ _⟩
    (fun done wr hI => by have := hI.1.wa; rw [show (k.lasts (layAll k.L (wdat done))).q = k.q from rfl, hqv] at this; exact this)
    (fun done wr o hI => ⟨hI.1.grow ((Keeps.refl [] wr).alloc _), (World.cell?_alloc_lt wr o _ (lt_of_cell hI.2.1)).trans hI.2.1, hI.2.2.alloc _⟩)
    (fun x hx => by obtain ⟨A, c, e, _⟩ := (h.fit x hx).1; exact ⟨A, _, c, e⟩)
    (fun done x rest wr hx hI => by
      have hfit := hI.1.fit x (by show x ∈ k.W; rw [hx]; simp)
      refine (syncfn_any (k.lasts (layAll k.L (wdat done))) w.heap.size x.off x.v x.xs wr hI.1 hI.2.1 hfit.1 (by rw [hI.1.len]; exact hfit.2.1)).mono ?_
      rintro e w' ⟨rfl, h1, h2⟩
      refine ⟨rfl, ?_, ?_, hI.2.2.trans' h2⟩
      · have e2 : layAll k.L (wdat (done ++ [x])) = laid (layAll k.L (wdat done)) x.off x.xs := by rw [wdat, List.map_append]; exact layAll_snoc _ _ _
        rw [e2]
        exact h1
      · have hne : w.heap.size ∉ [k.l] := by have : k.l < w.heap.size := (h.la.lt _ rfl).2; simp; omega
        exact (h2.cell (p := ⟨w.heap.size, 0, none⟩) (lt_of_cell hI.2.1) hne).trans hI.2.1))
  clear h hl hqv
  go_enter Tryz.func64, Tryz.ntmps64
  go_wp2
  refine wp_scope_once 0 rfl ?_
  go_wp2_with (first
    | (go_at_call 30; refine (missing_not _ _ _ _ _ (c0' _) (by omega) (by omega)).mono ?_; rintro e w' ⟨rfl, rfl⟩))
  refine HDA.out.mono ?_
  rintro e w1 ⟨rfl, hd1, hb1, hk1⟩
  have d2 := hd1.c2
  have f2 := hd1.free 2
  rw [show (k.lasts (layAll k.L (wdat k.W))).p = k.p from rfl] at d2 f2
  have HS := Lib.hid hd1.still
  have HK1 := Lib.hid hk1
  have HD1 := Lib.hid hd1
  clear hd1 hk1 HDA
  go_wp2_with fail
  refine (count_any _ _ HS.out hd).mono ?_
  rintro e w2 ⟨rfl, hd3, hk3⟩
  have HE := Lib.hid (sync_end HD.out HK1.out hd3 hk3)
  clear hd3 hk3
  go_wp2
  simp only [Exit.jump]
  go_ret
  exact ⟨rfl, _, HE.out, by simp [Dk.dat, Dat.sync, Dk.nums, Dk.still, Dk.lasts, wdat], by simp [Dk.nums, Dk.still]⟩

theorem sync_stop (k : Dk) (w : World) (h : DiskAt w k) (hl : k.left = 0) :
    Calls Tryz.prog 64 #[.pointer (some ⟨k.p, 0, none⟩)] w fun e w' => e = .returned (.int .i64 111) ∧ Keeps [] w w' := by
  have c0 := h.c0
  have c4 := h.c4
  have hp := h.pos
  have hb := h.big
  have hpl := lt_of_heap h.blk
  have hl0 : (k.left == 0) = true := by simpa using hl
  have c0' := fun o : Obj => (World.cell?_alloc_lt w o ⟨k.p, 0, none⟩ hpl).trans c0
  clear h hl
  go_enter Tryz.func64, Tryz.ntmps64
  go_wp2
  refine wp_scope_once 0 rfl ?_
  go_wp2_with (first
    | (go_at_call 30; refine (missing_not _ _ _ _ _ (c0' _) (by omega) (by omega)).mono ?_; rintro e w' ⟨rfl, rfl⟩))
  go_step3
  refine ⟨rfl, ?_⟩
  go_wp2
  rw [Exit.noGoto_ret]
  go_ret
  exact ⟨rfl, (Keeps.refl _ _).alloc _⟩

end Go.Proofs.YthgpjlmdllihmaaGreat
/- torn: the bytes that a crash leaves. -/
namespace Go.Proofs.YthgpjlmdllihmaaGreat
open Go.RowKit
set_option linter.unusedVariables false
set_option maxRecDepth 100000

theorem tornfn_any (B2 g c off n : Nat) (T : List UInt8) (v : Value) (xs : List UInt8) (base : Nat) (w : World) (hn : T.length = n) (hr : w.ownsRow base 5 1 (.slice (some ⟨g, 0, none⟩) n c) n (T.map bv)) (hB : w.cell? ⟨B2, 0, none⟩ = some (.slice (some ⟨g, 0, none⟩) n c)) (hv : BytesAt w v xs) (hf : off + xs.length ≤ n) :
    Calls Tryz.prog 51 #[.agg #[.int .i64 (off : Int), v], .pointer (some ⟨B2, 0, none⟩)] w fun e w' => e = .returned (.tuple #[]) ∧ w'.ownsRow base 5 1 (.slice (some ⟨g, 0, none⟩) n c) n ((laid T off xs).map bv) ∧ Keeps [g] w w' := by
  subst hn
  have hB0 := lt_of_cell hB
  have hv0 := hv
  obtain ⟨A, c', hv1, _⟩ := hv0
  subst hv1
  have HR := Lib.hid hr
  have HV := Lib.hid hv
  clear hr hv
  go_enter Tryz.func51, Tryz.ntmps51
  go_wp2_with (go_at_call 52; refine (put_any g c T base off _ xs _ (HR.out.alloc _) hf (HV.out.grow (((Keeps.refl [] w)).alloc _))).mono ?_; rintro e w1 ⟨rfl, ho, hk⟩)
  go_end0
  exact ⟨rfl, ho, (((Keeps.refl _ w)).alloc _).trans' hk⟩

/-- How many of the writes that wait a crash keeps; what it leaves. -/
def keepOf (d : Dat) (keep : Int) : Nat := (keep % ((d.W.length : Int) + 1)).toNat
def tornOf (d : Dat) (keep torn : Int) : List UInt8 :=
  match d.W[keepOf d keep]? with
  | none => layAll d.L (d.W.take (keepOf d keep))
  | some x => laid (layAll d.L (d.W.take (keepOf d keep))) x.1 (x.2.take (torn % ((x.2.length : Int) + 1)).toNat)

theorem own_take {w : World} {Aq : Option Addr} {n cq K : Nat} {W : List Wt} (h : w.ownsRow 0 86 2 (.slice Aq n cq) n (wcells W)) (hn : W.length = n) (hK : K ≤ n) : w.ownsRow 0 86 2 (.slice Aq K cq) K (wcells (W.take K)) := by
  have hl : ∀ D : List Wt, (wcells D).length = D.length * 2 := by
    intro D
    induction D with
    | nil => rfl
    | cons y D ih => simp only [wcells, List.flatMap_cons, List.length_append, List.length_cons, List.length_nil] at ih ⊢; omega
  have ht : (wcells W).take (K * 2) = wcells (W.take K) := by
    have e : wcells W = wcells (W.take K) ++ wcells (W.drop K) := by
      rw [wcells, wcells, wcells, ← List.flatMap_append, List.take_append_drop]
    rw [e, List.take_append_of_le_length (by rw [hl]; simp; omega), List.take_of_length_le (by rw [hl]; simp; omega)]
  refine ⟨by rw [hl]; simp; omega, ?_⟩
  rcases h.2 with ⟨h1, h2⟩ | ⟨g, cap, cur, he, hb, hh, hnc, hcm, hcs, htk⟩
  · injection h1 with h1 _ h3
    subst h1
    subst h3
    have : K = 0 := by omega
    subst this
    exact .inl ⟨rfl, rfl⟩
  · injection he with he1 _ he3
    subst he1
    subst he3
    refine .inr ⟨g, cq, cur, rfl, hb, hh, by omega, hcm, hcs, ?_⟩
    rw [← ht, ← htk, List.take_take, Nat.min_eq_left (by omega)]

def TornInv (k : Dk) (w0 : World) (B2 g n c base : Nat) (done : List Wt) (wr : World) : Prop :=
  wr.ownsRow base 5 1 (.slice (some ⟨g, 0, none⟩) n c) n ((layAll k.L (wdat done)).map bv) ∧ wr.cell? ⟨B2, 0, none⟩ = some (.slice (some ⟨g, 0, none⟩) n c) ∧ DiskAt wr k ∧ Keeps [g] w0 wr

theorem torn_again (k : Dk) (w0 : World) (B2 g n c base : Nat) (Aq : Option Addr) (cq K : Nat) (h : DiskAt w0 k) (hn : k.L.length = n) (hr : w0.ownsRow base 5 1 (.slice (some ⟨g, 0, none⟩) n c) n (k.L.map bv)) (hB : w0.cell? ⟨B2, 0, none⟩ = some (.slice (some ⟨g, 0, none⟩) n c))
    (hg : g ∉ k.all) (hgB : g ≠ B2) (hq : k.q = .slice Aq k.W.length cq) (hK : K ≤ k.W.length) (hW : k.W.length ≤ 1000000) :
    Calls Tryz.prog 50 #[.slice Aq K cq, .func (.func 51) #[] #[.pointer (some ⟨B2, 0, none⟩)]] w0 fun e w' => e = .returned (.tuple #[]) ∧ TornInv k w0 B2 g n c base (k.W.take K) w' := by
  refine doagain_TornFn (.pointer (some ⟨B2, 0, none⟩)) Aq cq K (k.W.take K) (TornInv k w0 B2 g n c base) w0 (by simp; omega) (by omega) ⟨hr, hB, h, Keeps.refl _ _⟩ ?_ ?_ ?_ ?_
  · intro done wr hI
    have := hI.2.2.1.wa
    rw [hq] at this
    exact own_take this rfl hK
  · intro done wr o hI
    exact ⟨hI.1.alloc _, (World.cell?_alloc_lt wr o _ (lt_of_cell hI.2.1)).trans hI.2.1, hI.2.2.1.grow ((Keeps.refl [] wr).alloc _), hI.2.2.2.alloc _⟩
  · intro x hx
    obtain ⟨A, c, e, _⟩ := (h.fit x (List.mem_of_mem_take hx)).1
    exact ⟨A, _, c, e⟩
  · intro done x rest wr hx hI
    have hxm : x ∈ k.W := List.mem_of_mem_take (i := K) (by rw [hx]; simp)
    have hfit := hI.2.2.1.fit x hxm
    have hlen : (layAll k.L (wdat done)).length = n := by
      refine length_layAll hn fun y hy => ?_
      obtain ⟨z, hz, rfl⟩ := List.mem_map.1 hy
      have := (h.fit z (List.mem_of_mem_take (i := K) (by rw [hx]; simp [hz]))).2.1
      rw [← hn, h.len]
      exact this
    refine (tornfn_any B2 g c x.off n (layAll k.L (wdat done)) x.v x.xs base wr hlen hI.1 hI.2.1 hfit.1 (by rw [← hn, h.len]; exact hfit.2.1)).mono ?_
    rintro e w' ⟨rfl, h1, h2⟩
    refine ⟨rfl, ?_, ?_, hI.2.2.1.keep h2 ?_, hI.2.2.2.trans' h2⟩
    · have e2 : layAll k.L (wdat (done ++ [x])) = laid (layAll k.L (wdat done)) x.off x.xs := by rw [wdat, List.map_append]; exact layAll_snoc _ _ _
      rw [e2]
      exact h1
    · exact (h2.cell (p := ⟨B2, 0, none⟩) (lt_of_cell hI.2.1) (by simp; exact fun e => hgB e.symm)).trans hI.2.1
    · intro b hb
      simp
      rintro rfl
      exact hg hb

end Go.Proofs.YthgpjlmdllihmaaGreat
/- torn, Crash. -/
namespace Go.Proofs.YthgpjlmdllihmaaGreat
open Go.RowKit
set_option linter.unusedVariables false
set_option maxRecDepth 100000

theorem pick_still (k n : Int) (w : World) (hk : -9223372036854775808 ≤ k ∧ k ≤ 9223372036854775807) (hn : 0 < n) (hn2 : n ≤ 4611686018427387904) :
    Calls Tryz.prog 32 #[.int .i64 k, .int .i64 n] w fun e w' => e = .returned (.int .i64 (k % n)) ∧ w' = w :=
  (pick_any k n w hk hn hn2).mono fun _ _ h => ⟨h.1, h.2.symm⟩

theorem pick_nat (k n : Int) (K : Nat) (w : World) (hK : k % n = (K : Int)) (hk : -9223372036854775808 ≤ k ∧ k ≤ 9223372036854775807) (hn : 0 < n) (hn2 : n ≤ 4611686018427387904) :
    Calls Tryz.prog 32 #[.int .i64 k, .int .i64 n] w fun e w' => e = .returned (.int .i64 (K : Int)) ∧ w = w' := by
  rw [← hK]
  exact pick_any k n w hk hn hn2

theorem pick_lt (k : Int) (n : Nat) : ∃ K : Nat, k % ((n : Int) + 1) = (K : Int) ∧ K ≤ n := by
  have h1 := Int.emod_nonneg k (show (n : Int) + 1 ≠ 0 by omega)
  have h2 := Int.emod_lt_of_pos k (show (0 : Int) < (n : Int) + 1 by omega)
  exact ⟨(k % ((n : Int) + 1)).toNat, by omega, by omega⟩

theorem BytesAt.take {w : World} {A : Option Addr} {m c : Nat} {xs : List UInt8} (h : BytesAt w (.slice A m c) xs) (T : Nat) (hT : T ≤ m) : BytesAt w (.slice A T c) (xs.take T) ∧ (xs.take T).length = T ∧ xs.length = m ∧ m ≤ c ∧ c ≤ 9223372036854775807 := by
  obtain ⟨A', c', he, h1, h2, h3⟩ := h
  injection he with he1 he2 he3
  subst he1
  subst he3
  have hl : (xs.take T).length = T := by simp; omega
  unfold maxLen at h2
  refine ⟨⟨A, c, by rw [hl], by omega, by unfold maxLen; omega, fun hp => ?_⟩, hl, by omega, by omega, by omega⟩
  obtain ⟨b, o, rfl, hc⟩ := h3 (by omega)
  refine ⟨b, o, rfl, fun i u hu => hc i u ?_⟩
  rw [List.getElem?_take] at hu
  split at hu
  · exact hu
  · cases hu

theorem put_len (g c n : Nat) (S : List UInt8) (base off : Nat) (v : Value) (xs : List UInt8) (w : World) (hn : S.length = n) (hr : w.ownsRow base 5 1 (.slice (some ⟨g, 0, none⟩) n c) n (S.map bv))
    (hfit : off + xs.length ≤ n) (hv : BytesAt w v xs) :
    Calls Tryz.prog 52 #[.agg #[.slice (some ⟨g, 0, none⟩) n c], .agg #[.int .i64 (off : Int), v]] w fun e w' => e = .returned (.tuple #[]) ∧ w'.ownsRow base 5 1 (.slice (some ⟨g, 0, none⟩) n c) n ((laid S off xs).map bv) ∧ Keeps [g] w w' := by
  subst hn
  exact put_any g c S base off v xs w hr hfit hv

theorem torn_all {d : Dat} {keep torn : Int} {K : Nat} (hK : keep % ((d.W.length : Int) + 1) = (K : Int)) (h : ¬ K < d.W.length) : tornOf d keep torn = layAll d.L (d.W.take K) := by
  have hk : keepOf d keep = K := by unfold keepOf; rw [hK]; rfl
  unfold tornOf
  rw [hk, List.getElem?_eq_none (by omega)]

theorem torn_some {d : Dat} {keep torn : Int} {K T : Nat} {x : Nat × List UInt8} (hK : keep % ((d.W.length : Int) + 1) = (K : Int)) (h : d.W[K]? = some x) (hT : torn % ((x.2.length : Int) + 1) = (T : Int)) : tornOf d keep torn = laid (layAll d.L (d.W.take K)) x.1 (x.2.take T) := by
  have hk : keepOf d keep = K := by unfold keepOf; rw [hK]; rfl
  unfold tornOf
  rw [hk, h]
  simp only
  rw [hT]
  rfl

/-- The last store of torn: the answer's own cell. -/
theorem torn_end {w w3 : World} {g n cc : Nat} {T : List UInt8} {o : Obj} (hr : w3.ownsRow (w.heap.size + 2) 5 1 (.slice (some ⟨g, 0, none⟩) n cc) n (T.map bv)) (hk : Keeps [g] w w3) (u : Value) :
    (w3.setCell ⟨w.heap.size + 1, 0, none⟩ u).ownsRow w.heap.size 5 1 (.slice (some ⟨g, 0, none⟩) n cc) n (T.map bv) ∧ Below w.heap.size w (w3.setCell ⟨w.heap.size + 1, 0, none⟩ u) := by
  have hg := (hr.lt g rfl).1
  refine ⟨own_keep (bs := [w.heap.size + 1]) (hr.mono (by omega)) ((Keeps.refl _ _).setCell (by simp) _) (fun b hb => ?_), ((hk.below (Nat.le_refl _) (by simp; omega)).setCell (by simp) _)⟩
  simp only [Value.ownBlock, Option.some.injEq] at hb
  subst hb
  simp
  omega

set_option maxHeartbeats 1000000 in
theorem torn_try (k : Dk) (keep torn : Int) (w : World) (h : DiskAt w k) (hk : -9223372036854775808 ≤ keep ∧ keep ≤ 9223372036854775807) (ht : -9223372036854775808 ≤ torn ∧ torn ≤ 9223372036854775807) (hW : k.W.length ≤ 1000000) :
    Calls Tryz.prog 31 #[.pointer (some ⟨k.p, 0, none⟩), .agg #[.int .i64 keep, .int .i64 torn], .func (.func 32) #[] #[]] w fun e w' => ∃ g c, e = .returned (.agg #[.slice (some ⟨g, 0, none⟩) k.S.length c]) ∧ w'.ownsRow w.heap.size 5 1 (.slice (some ⟨g, 0, none⟩) k.S.length c) k.S.length ((tornOf k.dat keep torn).map bv) ∧ Below w.heap.size w w' := by
  have c1 := h.c1
  have c2 := h.c2
  have hp := h.pos
  have hb := h.big
  have hlen := h.len
  have hpl := lt_of_heap h.blk
  obtain ⟨Aq, cq, hqv⟩ := own_slice h.wa
  rw [hqv] at c2
  have HQ := Lib.hid hqv
  have HL := Lib.hid hlen
  have HD := Lib.hid h
  have HK := Lib.hid hk
  have HT := Lib.hid ht
  have hbl : k.L.length ≤ 262144 := by omega
  obtain ⟨K, hK, hKW⟩ := pick_lt keep k.W.length
  have HKK := Lib.hid hK
  clear hK
  have hcq : k.W.length ≤ cq ∧ cq ≤ 9223372036854775807 := by have := h.wa; rw [hqv] at this; exact cap_of_own this
  obtain ⟨hcq1, hcq2⟩ := hcq
  clear h hqv hlen hk ht
  go_enter Tryz.func31, Tryz.ntmps31
  go_wp2_with (first
    | (go_at_call 39; refine (another_any _ _ k.L _ (by omega) ((BytesAt.of_own HD.out.la).grow (((Keeps.refl [] w).alloc _).alloc _))).mono ?_; rintro e w1 ⟨A1, cc, rfl, ho, hb1⟩; have HO := Lib.hid ho; have HB := Lib.hid hb1; clear ho hb1))
  obtain ⟨g, cap, hv, hg1, hg2⟩ := HO.out.form (by have := HL.out; omega)
  injection hv with hv1 _ hv3
  subst hv1
  subst hv3
  have hs1 := second_new HB.out
  have hb0 : w1.heap[w.heap.size]? = some (.cells #[.int .i64 keep, .int .i64 torn] 25 (0, 0)) := by
    rw [HB.out.block _ (by simp; omega), Below.heap_alloc _ _ _ (by simp)]
    exact heap_alloc_new w _
  have hk1 : Keeps [] w w1 := (((Keeps.refl [] w).alloc _).alloc _).trans' (Keeps.of_below HB.out)
  have hd1 := HD.out.grow hk1
  have d2 := hd1.c2
  rw [HQ.out] at d2
  have e0 := cell_of_blk hb0 0
  have e1 := cell_of_blk hb0 1
  have e2 := cell_of_blk hs1 0
  have g2' := free_of_blk hs1 0
  simp at e0 e1 e2
  have hpl1 := lt_of_heap hd1.blk
  have hz1 : w.heap.size + 1 < w1.heap.size := lt_of_heap hs1
  have HD1 := Lib.hid hd1
  have HK1 := Lib.hid hk1
  have HS1 := Lib.hid hs1
  have HB0 := Lib.hid hb0
  clear hd1 hk1 hs1 hb0 c1 c2
  have hz0 : w.heap.size < w1.heap.size := by omega
  refine region_tail 9 (by kernel_rfl) (by kernel_rfl) ?_
  simp only [List.take_succ_cons, List.take_zero, List.drop_succ_cons, List.drop_zero]
  repeat still_step
  refine wpStill_nil ?_
  go_wp2_with (go_at_call 32; refine (pick_nat _ _ K _ HKK.out HK.out (by omega) (by omega)).mono ?_; rintro e w' ⟨rfl, rfl⟩)
  have hgb : w.heap.size + 2 ≤ g := by simpa using hg1
  have hkw2 : Keeps [] w1 (w1.alloc (.cells #[.slice (some ⟨g, 0, none⟩) k.L.length cc] 57)).drew := ((Keeps.refl [] w1).alloc _).drew
  refine (torn_again k _ w1.heap.size g k.L.length cc (w.heap.size + 2) Aq cq K (HD1.out.grow hkw2) rfl (own_keep (by simpa using HO.out) hkw2 (by simp)) (by simp [World.cell?_alloc_new]) (fun hm => by have := HD.out.lt g hm; omega) (by omega) HQ.out hKW hW).mono ?_
  rintro e w3 ⟨rfl, hr3, hc3, hd3, hk3⟩
  have q3 := hd3.c2
  rw [HQ.out] at q3
  have hlt3 : w1.heap.size < w3.heap.size := lt_of_cell hc3
  have e03 := (hk3.cell (p := ⟨w.heap.size, 0, none⟩) (by simp; omega) (by simp; omega)).trans ((hkw2.cell (p := ⟨w.heap.size, 0, none⟩) (by simp; omega) (by simp)).trans e0)
  have e13 := (hk3.cell (p := ⟨w.heap.size, 1, none⟩) (by simp; omega) (by simp; omega)).trans ((hkw2.cell (p := ⟨w.heap.size, 1, none⟩) (by simp; omega) (by simp)).trans e1)
  have hs3 := (hk3.block (w.heap.size + 1) (by simp; omega) (by simp; omega)).trans ((hkw2.block (w.heap.size + 1) (by omega) (by simp)).trans HS1.out)
  have HK3 := Lib.hid (((HK1.out.trans' hkw2).mono (cs := [g]) (by simp)).trans' hk3)
  have HR3 := Lib.hid hr3
  have HD3 := Lib.hid hd3
  have HS3 := Lib.hid hs3
  have r3 := cell_of_blk hs3 0
  have s3 := free_of_blk hs3 0
  simp at r3
  clear hr3 hd3 hk3 hkw2 hs3 d2 e0 e1 e2 g2'
  have hz3 : w.heap.size < w3.heap.size := by omega
  by_cases hlt : K < k.W.length
  · obtain ⟨gq, capq, hvq, _, hgq⟩ := HD3.out.wa.form (by omega)
    rw [HQ.out] at hvq
    injection hvq with hvq1 _ hvq3
    subst hvq1
    subst hvq3
    obtain ⟨x, rest, hx⟩ : ∃ x rest, k.W = k.W.take K ++ x :: rest := by
      refine ⟨k.W[K]'hlt, k.W.drop (K + 1), ?_⟩
      rw [← List.drop_eq_getElem_cons, List.take_append_drop]
    have hlen : (k.W.take K).length = K := by simp; omega
    have hcs := wcells_at hx
    rw [hlen] at hcs
    have hwa := HD3.out.wa
    rw [HQ.out] at hwa
    have hc0 := hwa.cellAt (K * 2) (by omega)
    have hc1 := hwa.cellAt (K * 2 + 1) (by omega)
    rw [hcs.1] at hc0
    rw [hcs.2] at hc1
    have hxm : x ∈ k.W := by rw [hx]; simp
    obtain ⟨hxb, hxf, hxo⟩ := HD3.out.fit x hxm
    obtain ⟨A, c, hxv, _⟩ := id hxb
    rw [hxv] at hc1 hxb
    obtain ⟨T, hT, hTx⟩ := pick_lt torn x.xs.length
    obtain ⟨hbt, hbl2, _, hxc, hxm2⟩ := hxb.take T hTx
    have hxx : k.W[K]? = some x := by rw [hx, List.getElem?_append_right (by omega), hlen]; simp
    have HXX := Lib.hid hxx
    have HT2 := Lib.hid hT
    have HBT := Lib.hid hbt
    have HBL := Lib.hid hbl2
    have hxs : x.xs.length ≤ 262144 := by omega
    clear hx hlen hcs hwa hxv hbt hxx hT hxb hbl2
    go_wp2_with fail
    have HPK := Lib.hid (fun W : World => (pick_nat torn ((x.xs.length : Int) + 1) T W HT2.out HT.out (by omega) (by omega)).mono fun _ _ h => And.intro h.1 h.2.symm)
    have hT0 : 0 ≤ (T : Int) := by omega
    have hTc : (T : Int) ≤ (c : Int) := by omega
    have hTn : T ≤ c := by omega
    have wr2 : IntKind.i64.wrap ((x.xs.length : Int) + 1) = (x.xs.length : Int) + 1 := IntWalk.i64_in _ (by omega)
    refine region_tail 15 (by kernel_rfl) (by kernel_rfl) ?_
    simp only [List.take_succ_cons, List.take_zero, List.drop_succ_cons, List.drop_zero]
    repeat still_step
    still_call (HPK.out _)
    clear wr2
    repeat still_step
    refine wpStill_nil ?_
    go_wp2_with fail
    have hlay : (layAll k.L (wdat (k.W.take K))).length = k.L.length := by
      refine length_layAll rfl fun y hy => ?_
      obtain ⟨z, hz, rfl⟩ := List.mem_map.1 hy
      have := (HD.out.fit z (List.mem_of_mem_take hz)).2.1
      rw [HL.out]
      exact this
    have hkw4 : Keeps [] w3 (w3.alloc (.cells #[.int .i64 (x.off : Int), .slice A x.xs.length c] 86)).drew := ((Keeps.refl [] w3).alloc _).drew
    have hfit4 : x.off + (x.xs.take T).length ≤ k.L.length := by have h1 := HBL.out; have h2 := HL.out; omega
    refine (put_len g cc k.L.length _ (w.heap.size + 2) x.off (.slice A T c) (x.xs.take T) _ hlay (own_keep HR3.out hkw4 (by simp)) hfit4 (HBT.out.grow hkw4)).mono ?_
    rintro e w4 ⟨rfl, hr4, hk4⟩
    have HK4 := Lib.hid (HK3.out.trans' ((hkw4.mono (cs := [g]) (by simp)).trans' hk4))
    have hne1 : w1.heap.size ∉ [g] := by simp; omega
    have hne2 : w.heap.size + 1 ∉ [g] := by simp; omega
    have c4 := (hk4.cell (p := ⟨w1.heap.size, 0, none⟩) (by simp [World.drew]; omega) hne1).trans ((hkw4.cell (p := ⟨w1.heap.size, 0, none⟩) hlt3 (by simp)).trans hc3)
    have hs4 := (hk4.block (w.heap.size + 1) (by simp [World.drew]; omega) hne2).trans ((hkw4.block (w.heap.size + 1) (by omega) (by simp)).trans HS3.out)
    have r4 := cell_of_blk hs4 0
    have s4 := free_of_blk hs4 0
    simp at r4
    have HE := Lib.hid (torn_end (o := .cells #[] 0) hr4 HK4.out (.slice (some ⟨g, 0, none⟩) k.L.length cc))
    clear hr4 hk4 hkw4 hs4 hlay
    go_wp2_with fail
    refine bodyPost_ret (v := .agg #[.slice (some ⟨g, 0, none⟩) k.L.length cc]) (by simp [results, Tryz.results31, go_sem, r4]) rfl ⟨g, cc, by rw [HL.out], ?_, HE.out.2⟩
    have hxx2 : k.dat.W[K]? = some (x.off, x.xs) := by simp [Dk.dat, HXX.out]
    have e := torn_some (d := k.dat) (keep := keep) (torn := torn) (K := K) (T := T) (by simpa [Dk.dat] using HKK.out) hxx2 HT2.out
    rw [e, ← HL.out]
    have := HE.out.1
    rwa [show (k.dat.W.take K) = wdat (k.W.take K) from by simp [Dk.dat, wdat, List.map_take]]
  · have HE := Lib.hid (torn_end (o := .cells #[] 0) HR3.out HK3.out (.slice (some ⟨g, 0, none⟩) k.L.length cc))
    go_wp2_with fail
    refine bodyPost_ret (v := .agg #[.slice (some ⟨g, 0, none⟩) k.L.length cc]) (by simp [results, Tryz.results31, go_sem, r3]) rfl ⟨g, cc, by rw [HL.out], ?_, HE.out.2⟩
    have e := torn_all (d := k.dat) (keep := keep) (torn := torn) (K := K) (by simpa [Dk.dat] using HKK.out) (by simp [Dk.dat]; omega)
    rw [e, ← HL.out]
    have := HE.out.1
    rwa [show (k.dat.W.take K) = wdat (k.W.take K) from by simp [Dk.dat, wdat, List.map_take]]

end Go.Proofs.YthgpjlmdllihmaaGreat
