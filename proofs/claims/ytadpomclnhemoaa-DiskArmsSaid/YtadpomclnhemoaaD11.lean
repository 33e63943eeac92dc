/- torn, Crash. -/
import Derived.Test.YtadpomclnhemoaaD10
import Derived.Deep.QuietTactic
import Derived.BigQuiet
namespace Go.Proofs.Ytadpomclnhemoaa
open Go.RowKit
set_option linter.unusedVariables false

theorem pick_still (k n : Int) (w : World) (hk : -9223372036854775808 ≤ k ∧ k ≤ 9223372036854775807) (hn : 0 < n) (hn2 : n ≤ 4611686018427387904) :
    Calls Try.prog 43 #[.int .i64 k, .int .i64 n] w fun e w' => e = .returned (.int .i64 (k % n)) ∧ w' = w :=
  (pick_any k n w hk hn hn2).mono fun _ _ h => ⟨h.1, h.2.symm⟩

theorem pick_nat (k n : Int) (K : Nat) (w : World) (hK : k % n = (K : Int)) (hk : -9223372036854775808 ≤ k ∧ k ≤ 9223372036854775807) (hn : 0 < n) (hn2 : n ≤ 4611686018427387904) :
    Calls Try.prog 43 #[.int .i64 k, .int .i64 n] w fun e w' => e = .returned (.int .i64 (K : Int)) ∧ w = w' := by
  rw [← hK]
  exact pick_any k n w hk hn hn2

theorem pick_lt (k : Int) (n : Nat) : ∃ K : Nat, k % ((n : Int) + 1) = (K : Int) ∧ K ≤ n := by
  have h1 := Int.emod_nonneg k (show (n : Int) + 1 ≠ 0 by omega)
  have h2 := Int.emod_lt_of_pos k (show (0 : Int) < (n : Int) + 1 by omega)
  exact ⟨(k % ((n : Int) + 1)).toNat, by omega, by omega⟩

theorem cap_of_own {w : World} {base : Nat} {e : TypeId} {z n c : Nat} {A : Option Addr} {xs : List Value} (h : w.ownsRow base e z (.slice A n c) n xs) : n ≤ c ∧ c ≤ 9223372036854775807 := by
  rcases h.2 with ⟨h1, h2⟩ | ⟨g, cap, cur, he, _, _, hnc, hm, _⟩
  · injection h1 with _ h1 h3; omega
  · injection he with _ _ he; unfold maxLen at hm; omega

theorem BytesAt.take {w : World} {A : Option Addr} {m c : Nat} {xs : List UInt8} (h : BytesAt w (.slice A m c) xs) (T : Nat) (hT : T ≤ m) : BytesAt w (.slice A T c) (xs.take T) ∧ (xs.take T).length = T ∧ xs.length = m ∧ m ≤ c ∧ c ≤ 9223372036854775807 := by
  obtain ⟨A', c', he, h1, h2, h3⟩ := h
  injection he with he1 he2 he3
  subst he1
  subst he3
  have hl : (xs.take T).length = T := by simp; omega
  unfold maxLen at h2
  refine ⟨⟨A, c, by rw [hl], by omega, by unfold maxLen; omega, fun hp => ?_⟩, hl, by omega, by omega, by omega⟩
  obtain ⟨b, o, rfl, hc⟩ := h3 (by omega)
  refine ⟨b, o, rfl, fun i u hu => hc i u ?_⟩
  rw [List.getElem?_take] at hu
  split at hu
  · exact hu
  · cases hu

theorem put_len (g c n : Nat) (S : List UInt8) (base off : Nat) (v : Value) (xs : List UInt8) (w : World) (hn : S.length = n) (hr : w.ownsRow base 5 1 (.slice (some ⟨g, 0, none⟩) n c) n (S.map bv))
    (hfit : off + xs.length ≤ n) (hv : BytesAt w v xs) :
    Calls Try.prog 41 #[.agg #[.slice (some ⟨g, 0, none⟩) n c], .agg #[.int .i64 (off : Int), v]] w fun e w' => e = .returned (.tuple #[]) ∧ w'.ownsRow base 5 1 (.slice (some ⟨g, 0, none⟩) n c) n ((laid S off xs).map bv) ∧ Keeps [g] w w' := by
  subst hn
  exact put_any g c S base off v xs w hr hfit hv

theorem torn_all {d : Dat} {keep torn : Int} {K : Nat} (hK : keep % ((d.W.length : Int) + 1) = (K : Int)) (h : ¬ K < d.W.length) : tornOf d keep torn = layAll d.L (d.W.take K) := by
  have hk : keepOf d keep = K := by unfold keepOf; rw [hK]; rfl
  unfold tornOf
  rw [hk, List.getElem?_eq_none (by omega)]

theorem torn_some {d : Dat} {keep torn : Int} {K T : Nat} {x : Nat × List UInt8} (hK : keep % ((d.W.length : Int) + 1) = (K : Int)) (h : d.W[K]? = some x) (hT : torn % ((x.2.length : Int) + 1) = (T : Int)) : tornOf d keep torn = laid (layAll d.L (d.W.take K)) x.1 (x.2.take T) := by
  have hk : keepOf d keep = K := by unfold keepOf; rw [hK]; rfl
  unfold tornOf
  rw [hk, h]
  simp only
  rw [hT]
  rfl

/-- The last store of torn: the answer's own cell. -/
theorem torn_end {w w3 : World} {g n cc : Nat} {T : List UInt8} {o : Obj} (hr : w3.ownsRow (w.heap.size + 2) 5 1 (.slice (some ⟨g, 0, none⟩) n cc) n (T.map bv)) (hk : Keeps [g] w w3) (u : Value) :
    (w3.setCell ⟨w.heap.size + 1, 0, none⟩ u).ownsRow w.heap.size 5 1 (.slice (some ⟨g, 0, none⟩) n cc) n (T.map bv) ∧ Below w.heap.size w (w3.setCell ⟨w.heap.size + 1, 0, none⟩ u) := by
  have hg := (hr.lt g rfl).1
  refine ⟨own_keep (bs := [w.heap.size + 1]) (hr.mono (by omega)) ((Keeps.refl _ _).setCell (by simp) _) (fun b hb => ?_), ((hk.below (Nat.le_refl _) (by simp; omega)).setCell (by simp) _)⟩
  simp only [Value.ownBlock, Option.some.injEq] at hb
  subst hb
  simp
  omega

set_option maxHeartbeats 1000000 in
theorem torn_try (k : Dk) (keep torn : Int) (w : World) (h : DiskAt w k) (hk : -9223372036854775808 ≤ keep ∧ keep ≤ 9223372036854775807) (ht : -9223372036854775808 ≤ torn ∧ torn ≤ 9223372036854775807) (hW : k.W.length ≤ 1000000) :
    Calls Try.prog 42 #[.pointer (some ⟨k.p, 0, none⟩), .agg #[.int .i64 keep, .int .i64 torn], .func (.func 43) #[] #[]] w fun e w' => ∃ g c, e = .returned (.agg #[.slice (some ⟨g, 0, none⟩) k.S.length c]) ∧ w'.ownsRow w.heap.size 5 1 (.slice (some ⟨g, 0, none⟩) k.S.length c) k.S.length ((tornOf k.dat keep torn).map bv) ∧ Below w.heap.size w w' := by
  have c1 := h.c1
  have c2 := h.c2
  have hp := h.pos
  have hb := h.big
  have hlen := h.len
  have hpl := lt_of_heap h.blk
  obtain ⟨Aq, cq, hqv⟩ := own_slice h.wa
  rw [hqv] at c2
  have HQ := Lib.hid hqv
  have HL := Lib.hid hlen
  have HD := Lib.hid h
  have HK := Lib.hid hk
  have HT := Lib.hid ht
  have hbl : k.L.length ≤ 262144 := by omega
  obtain ⟨K, hK, hKW⟩ := pick_lt keep k.W.length
  have HKK := Lib.hid hK
  clear hK
  have hcq : k.W.length ≤ cq ∧ cq ≤ 9223372036854775807 := by have := h.wa; rw [hqv] at this; exact cap_of_own this
  obtain ⟨hcq1, hcq2⟩ := hcq
  clear h hqv hlen hk ht
  go_enter Try.func42, Try.ntmps42
  go_wp2_with (first
    | (go_at_call 44; refine (another_any _ _ k.L _ (by omega) ((BytesAt.of_own HD.out.la).grow (((Keeps.refl [] w).alloc _).alloc _))).mono ?_; rintro e w1 ⟨A1, cc, rfl, ho, hb1⟩; have HO := Lib.hid ho; have HB := Lib.hid hb1; clear ho hb1))
  obtain ⟨g, cap, hv, hg1, hg2⟩ := HO.out.form (by have := HL.out; omega)
  injection hv with hv1 _ hv3
  subst hv1
  subst hv3
  have hs1 := second_new HB.out
  have hb0 : w1.heap[w.heap.size]? = some (.cells #[.int .i64 keep, .int .i64 torn] 38 (0, 0)) := by
    rw [HB.out.block _ (by simp; omega), Below.heap_alloc _ _ _ (by simp)]
    exact heap_alloc_new w _
  have hk1 : Keeps [] w w1 := (((Keeps.refl [] w).alloc _).alloc _).trans' (Keeps.of_below HB.out)
  have hd1 := HD.out.grow hk1
  have d2 := hd1.c2
  rw [HQ.out] at d2
  have e0 := cell_of_blk hb0 0
  have e1 := cell_of_blk hb0 1
  have e2 := cell_of_blk hs1 0
  have g2' := free_of_blk hs1 0
  simp at e0 e1 e2
  have hpl1 := lt_of_heap hd1.blk
  have hz1 : w.heap.size + 1 < w1.heap.size := lt_of_heap hs1
  have HD1 := Lib.hid hd1
  have HK1 := Lib.hid hk1
  have HS1 := Lib.hid hs1
  have HB0 := Lib.hid hb0
  clear hd1 hk1 hs1 hb0 c1 c2
  have hz0 : w.heap.size < w1.heap.size := by omega
  refine region_tail 9 (by kernel_rfl) (by kernel_rfl) ?_
  simp only [List.take_succ_cons, List.take_zero, List.drop_succ_cons, List.drop_zero]
  repeat still_step
  refine wpStill_nil ?_
  go_wp2_with (go_at_call 43; refine (pick_nat _ _ K _ HKK.out HK.out (by omega) (by omega)).mono ?_; rintro e w' ⟨rfl, rfl⟩)
  have hgb : w.heap.size + 2 ≤ g := by simpa using hg1
  have hkw2 : Keeps [] w1 (w1.alloc (.cells #[.slice (some ⟨g, 0, none⟩) k.L.length cc] 59)).drew := ((Keeps.refl [] w1).alloc _).drew
  refine (torn_again k _ w1.heap.size g k.L.length cc (w.heap.size + 2) Aq cq K (HD1.out.grow hkw2) rfl (own_keep (by simpa using HO.out) hkw2 (by simp)) (by simp [World.cell?_alloc_new]) (fun hm => by have := HD.out.lt g hm; omega) (by omega) HQ.out hKW hW).mono ?_
  rintro e w3 ⟨rfl, hr3, hc3, hd3, hk3⟩
  have q3 := hd3.c2
  rw [HQ.out] at q3
  have hlt3 : w1.heap.size < w3.heap.size := lt_of_cell hc3
  have e03 := (hk3.cell (p := ⟨w.heap.size, 0, none⟩) (by simp; omega) (by simp; omega)).trans ((hkw2.cell (p := ⟨w.heap.size, 0, none⟩) (by simp; omega) (by simp)).trans e0)
  have e13 := (hk3.cell (p := ⟨w.heap.size, 1, none⟩) (by simp; omega) (by simp; omega)).trans ((hkw2.cell (p := ⟨w.heap.size, 1, none⟩) (by simp; omega) (by simp)).trans e1)
  have hs3 := (hk3.block (w.heap.size + 1) (by simp; omega) (by simp; omega)).trans ((hkw2.block (w.heap.size + 1) (by omega) (by simp)).trans HS1.out)
  have HK3 := Lib.hid (((HK1.out.trans' hkw2).mono (cs := [g]) (by simp)).trans' hk3)
  have HR3 := Lib.hid hr3
  have HD3 := Lib.hid hd3
  have HS3 := Lib.hid hs3
  have r3 := cell_of_blk hs3 0
  have s3 := free_of_blk hs3 0
  simp at r3
  clear hr3 hd3 hk3 hkw2 hs3 d2 e0 e1 e2 g2'
  have hz3 : w.heap.size < w3.heap.size := by omega
  by_cases hlt : K < k.W.length
  · obtain ⟨gq, capq, hvq, _, hgq⟩ := HD3.out.wa.form (by omega)
    rw [HQ.out] at hvq
    injection hvq with hvq1 _ hvq3
    subst hvq1
    subst hvq3
    obtain ⟨x, rest, hx⟩ : ∃ x rest, k.W = k.W.take K ++ x :: rest := by
      refine ⟨k.W[K]'hlt, k.W.drop (K + 1), ?_⟩
      rw [← List.drop_eq_getElem_cons, List.take_append_drop]
    have hlen : (k.W.take K).length = K := by simp; omega
    have hcs := wcells_at hx
    rw [hlen] at hcs
    have hwa := HD3.out.wa
    rw [HQ.out] at hwa
    have hc0 := hwa.cellAt (K * 2) (by omega)
    have hc1 := hwa.cellAt (K * 2 + 1) (by omega)
    rw [hcs.1] at hc0
    rw [hcs.2] at hc1
    have hxm : x ∈ k.W := by rw [hx]; simp
    obtain ⟨hxb, hxf, hxo⟩ := HD3.out.fit x hxm
    obtain ⟨A, c, hxv, _⟩ := id hxb
    rw [hxv] at hc1 hxb
    obtain ⟨T, hT, hTx⟩ := pick_lt torn x.xs.length
    obtain ⟨hbt, hbl2, _, hxc, hxm2⟩ := hxb.take T hTx
    have hxx : k.W[K]? = some x := by rw [hx, List.getElem?_append_right (by omega), hlen]; simp
    have HXX := Lib.hid hxx
    have HT2 := Lib.hid hT
    have HBT := Lib.hid hbt
    have HBL := Lib.hid hbl2
    have hxs : x.xs.length ≤ 262144 := by omega
    clear hx hlen hcs hwa hxv hbt hxx hT hxb hbl2
    go_wp2_with fail
    have HPK := Lib.hid (fun W : World => (pick_nat torn ((x.xs.length : Int) + 1) T W HT2.out HT.out (by omega) (by omega)).mono fun _ _ h => And.intro h.1 h.2.symm)
    have hT0 : 0 ≤ (T : Int) := by omega
    have hTc : (T : Int) ≤ (c : Int) := by omega
    have hTn : T ≤ c := by omega
    have wr2 : IntKind.i64.wrap ((x.xs.length : Int) + 1) = (x.xs.length : Int) + 1 := IntWalk.i64_in _ (by omega)
    refine region_tail 15 (by kernel_rfl) (by kernel_rfl) ?_
    simp only [List.take_succ_cons, List.take_zero, List.drop_succ_cons, List.drop_zero]
    repeat still_step
    still_call (HPK.out _)
    clear wr2
    repeat still_step
    refine wpStill_nil ?_
    go_wp2_with fail
    have hlay : (layAll k.L (wdat (k.W.take K))).length = k.L.length := by
      refine length_layAll rfl fun y hy => ?_
      obtain ⟨z, hz, rfl⟩ := List.mem_map.1 hy
      have := (HD.out.fit z (List.mem_of_mem_take hz)).2.1
      rw [HL.out]
      exact this
    have hkw4 : Keeps [] w3 (w3.alloc (.cells #[.int .i64 (x.off : Int), .slice A x.xs.length c] 77)).drew := ((Keeps.refl [] w3).alloc _).drew
    have hfit4 : x.off + (x.xs.take T).length ≤ k.L.length := by have h1 := HBL.out; have h2 := HL.out; omega
    refine (put_len g cc k.L.length _ (w.heap.size + 2) x.off (.slice A T c) (x.xs.take T) _ hlay (own_keep HR3.out hkw4 (by simp)) hfit4 (HBT.out.grow hkw4)).mono ?_
    rintro e w4 ⟨rfl, hr4, hk4⟩
    have HK4 := Lib.hid (HK3.out.trans' ((hkw4.mono (cs := [g]) (by simp)).trans' hk4))
    have hne1 : w1.heap.size ∉ [g] := by simp; omega
    have hne2 : w.heap.size + 1 ∉ [g] := by simp; omega
    have c4 := (hk4.cell (p := ⟨w1.heap.size, 0, none⟩) (by simp [World.drew]; omega) hne1).trans ((hkw4.cell (p := ⟨w1.heap.size, 0, none⟩) hlt3 (by simp)).trans hc3)
    have hs4 := (hk4.block (w.heap.size + 1) (by simp [World.drew]; omega) hne2).trans ((hkw4.block (w.heap.size + 1) (by omega) (by simp)).trans HS3.out)
    have r4 := cell_of_blk hs4 0
    have s4 := free_of_blk hs4 0
    simp at r4
    have HE := Lib.hid (torn_end (o := .cells #[] 0) hr4 HK4.out (.slice (some ⟨g, 0, none⟩) k.L.length cc))
    clear hr4 hk4 hkw4 hs4 hlay
    go_wp2_with fail
    refine bodyPost_ret (v := .agg #[.slice (some ⟨g, 0, none⟩) k.L.length cc]) (by simp [results, Try.results42, go_sem, r4]) rfl ⟨g, cc, by rw [HL.out], ?_, HE.out.2⟩
    have hxx2 : k.dat.W[K]? = some (x.off, x.xs) := by simp [Dk.dat, HXX.out]
    have e := torn_some (d := k.dat) (keep := keep) (torn := torn) (K := K) (T := T) (by simpa [Dk.dat] using HKK.out) hxx2 HT2.out
    rw [e, ← HL.out]
    have := HE.out.1
    rwa [show (k.dat.W.take K) = wdat (k.W.take K) from by simp [Dk.dat, wdat, List.map_take]]
  · have HE := Lib.hid (torn_end (o := .cells #[] 0) HR3.out HK3.out (.slice (some ⟨g, 0, none⟩) k.L.length cc))
    go_wp2_with fail
    refine bodyPost_ret (v := .agg #[.slice (some ⟨g, 0, none⟩) k.L.length cc]) (by simp [results, Try.results42, go_sem, r3]) rfl ⟨g, cc, by rw [HL.out], ?_, HE.out.2⟩
    have e := torn_all (d := k.dat) (keep := keep) (torn := torn) (K := K) (by simpa [Dk.dat] using HKK.out) (by simp [Dk.dat]; omega)
    rw [e, ← HL.out]
    have := HE.out.1
    rwa [show (k.dat.W.take K) = wdat (k.W.take K) from by simp [Dk.dat, wdat, List.map_take]]

end Go.Proofs.Ytadpomclnhemoaa
