/- does: a crash, and it goes on with what that leaves. -/
import Derived.Test.YtadpomclnhemoaaS9
namespace Go.Proofs.Ytadpomclnhemoaa
open Go.RowKit
set_option linter.unusedVariables false

theorem torn_len {w : World} {k : Dk} (h : DiskAt w k) (keep torn : Int) : (tornOf k.dat keep torn).length = k.S.length := by
  have hf : ∀ x ∈ k.dat.W, x.1 + x.2.length ≤ k.S.length := wdat_fit h
  have hL : k.dat.L.length = k.S.length := h.len
  have hl : ∀ K, (layAll k.dat.L (k.dat.W.take K)).length = k.S.length := fun K => length_layAll hL fun x hx => hf x (List.mem_of_mem_take hx)
  unfold tornOf
  split
  · exact hl _
  · rename_i x hx
    have hm := hf x (List.mem_of_getElem? hx)
    rw [length_laid, hl]
    rw [hl]; simp; omega

/-- Both crash: what is left agrees. -/
theorem crash_agree {w : World} {k k' : Dk} {r q : Rf} {keep torn : Int} (h : Pair w k r) (hk : k'.dat = k.dat.crash keep torn) (hq : q.L = tornOf k.dat keep torn ∧ q.W = [] ∧ q.armed = -1 ∧ q.lim = r.lim ∧ q.done = 0) : Agree k' q ∧ k'.S.length = k.S.length ∧ k'.W = [] ∧ k'.done = 0 := by
  obtain ⟨q1, q2, q3, q4, q5⟩ := hq
  have e1 : k'.W.length = 0 := by have := dat_len hk; simpa [Dat.crash] using this
  have e2 : k'.W = [] := List.eq_nil_of_length_eq_zero e1
  refine ⟨⟨?_, ?_, ?_, ?_, ?_, ?_⟩, ?_, e2, dat_done hk⟩
  · rw [q1]; exact congrArg Dat.L hk
  · rw [e2, q2]
  · rw [q4, ← h.ag.lim]; exact dat_lim hk
  · rw [q3]; exact dat_left hk
  · rw [q5]; exact dat_done hk
  · rw [hk]; exact ok_crash _ _ _
  · rw [dat_S hk]; exact torn_len h.disk keep torn

theorem Went.crashed {w w1 w2 w3 : World} {k k' : Dk} {r q : Rf} {keep torn : Int} (h : Pair w k r) (hd : DiskAt w1 k') (hk : k'.dat = k.dat.crash keep torn) (hn : ∀ b ∈ k'.all, w.heap.size ≤ b) (k1 : Keeps [] w w1) (hq : RefAt w2 q) (hqa : ∀ b ∈ q.all, w1.heap.size ≤ b) (hqq : q.L = tornOf k.dat keep torn ∧ q.W = [] ∧ q.armed = -1 ∧ q.lim = r.lim ∧ q.done = 0) (k2 : Keeps [] w1 w2) (k3 : Keeps [] w2 w3) : Went w k r w3 k' q := by
  obtain ⟨a1, a2, a3, a4⟩ := crash_agree h hk hqq
  have z1 := k1.size
  refine ⟨⟨hd.grow (k2.trans' k3), hq.grow k3, a1, fun b hb hf => ?_⟩, fun b hb => .inr (hn b hb), fun b hb => .inr (hn b (fp_sub hb)), fun b hb => .inr (by have := hqa b hb; omega), ((k1.trans' k2).trans' k3).mono (by simp), a2, by rw [a3]; simp, by omega⟩
  have := hqa b hb
  have := hd.lt b (fp_sub hf)
  omega

theorem held_new {w : World} {n : Nat} {a b c d e : Value} {t : TypeId} (h : w.heap.size = n) : (w.alloc (.cells #[a, b, c, d, e] t)).drew.cell? ⟨n, 0, none⟩ = some a ∧ (w.alloc (.cells #[a, b, c, d, e] t)).drew.cell? ⟨n, 1, none⟩ = some b ∧ (w.alloc (.cells #[a, b, c, d, e] t)).drew.cell? ⟨n, 2, none⟩ = some c ∧ (w.alloc (.cells #[a, b, c, d, e] t)).drew.cell? ⟨n, 3, none⟩ = some d ∧ (w.alloc (.cells #[a, b, c, d, e] t)).drew.cell? ⟨n, 4, none⟩ = some e := by
  subst h
  exact (five_facts (blk_keep (heap_alloc_new w _) (Keeps.refl [] _).drew (by simp))).1

set_option maxHeartbeats 4000000 in
theorem does_crash5 (k : Dk) (r : Rf) (x : ActD) (w : World) (h : Pair w k r) (h1 : x.kind = 5) (hkp : i64 x.keep) (htn : i64 x.torn) (hW : k.W.length ≤ 1000000) :
    Calls Try.prog 13 #[.pointer (some ⟨k.p, 0, none⟩), r.v, x.v] w fun e w' => ∃ k' q, e = .returned (.tuple #[.pointer (some ⟨k'.p, 0, none⟩), q.v, .bool true]) ∧ Went w k r w' k' q := by
  have hrW : r.W.length ≤ 1000000 := by rw [← h.ag.wlen]; exact hW
  have HP := Lib.hid h
  have HC := fun W (hk : Keeps [] w W) => Lib.hid (crash_yes k x.keep x.torn W (h.disk.grow hk) hkp htn hW)
  have HR := fun W (hk : Keeps [] w W) => Lib.hid (refcrash_any r k.dat x.keep x.torn W (h.ref.grow hk) h.ag.L h.ag.W hkp htn hrW)
  unfold Rf.v at HR ⊢
  unfold ActD.v
  rw [h1]
  have n1 : ¬ w.heap.size + 1 + 1 = w.heap.size := by omega
  have n2 : ¬ w.heap.size + 1 + 1 = w.heap.size + 1 := by omega
  clear h h1 hrW hkp htn
  go_enter Try.func13, Try.ntmps13
  go_wp2_with fail
  refine (HC _ ((((Keeps.refl [] w).alloc _).alloc _).alloc _)).out.mono ?_
  rintro e w1 ⟨k', rfl, hd, hdat, hall, hk1⟩
  obtain ⟨b0, b1, b2⟩ := three_still hk1 (by simp)
  obtain ⟨⟨x0, x1, x2, x3, x4⟩, _⟩ := five_facts b0
  have c0 := cell_of_blk b1 0
  have c4 := cell_of_blk b1 4
  have c5 := cell_of_blk b1 5
  simp at c0 c4 c5
  have B1 := Lib.hid b1
  have B2 := Lib.hid b2
  have HD := Lib.hid hd
  have HDAT := Lib.hid hdat
  have HALL := Lib.hid hall
  have HK1 := Lib.hid hk1
  clear b0 b1 b2 hd hdat hall hk1 HC
  go_wp2_with fail
  refine (HR _ (((((Keeps.refl [] w).alloc _).alloc _).alloc _).trans' HK1.out)).out.mono ?_
  rintro e w2 ⟨q, rfl, hq, hqa, hqq, hk2⟩
  have b1 := blk_keep B1.out hk2 (by simp)
  have b2 := blk_keep B2.out hk2 (by simp)
  have d0 := cell_of_blk b1 0
  simp at d0
  have hz := lt_of_heap b2
  have n3 : ¬ w.heap.size + 1 + 1 = w2.heap.size := by omega
  have n4 : ¬ w2.heap.size = w.heap.size + 1 + 1 := by omega
  have n5 : w.heap.size + 1 < w2.heap.size := by omega
  obtain ⟨⟨y0, y1, y2, y3, y4⟩, ⟨f0, f1, f2, f3, f4⟩⟩ := five_facts b2
  have HQ := Lib.hid hq
  have HQA := Lib.hid hqa
  have HQQ := Lib.hid hqq
  have HK2 := Lib.hid hk2
  clear b1 b2 hq hqa hqq hk2 HR
  go_wp2_with fail
  go_region_held (fun w' => w'.cell? ⟨w2.heap.size, 0, none⟩ = some (.slice q.AL q.L.length q.cL) ∧ w'.cell? ⟨w2.heap.size, 1, none⟩ = some (.slice q.AW q.W.length q.cW) ∧ w'.cell? ⟨w2.heap.size, 2, none⟩ = some (.int .i64 q.armed) ∧ w'.cell? ⟨w2.heap.size, 3, none⟩ = some (.int .i64 (q.lim : Int)) ∧ w'.cell? ⟨w2.heap.size, 4, none⟩ = some (.int .i64 (q.done : Int))) (first | exact held_new (by simp) | (go_keep; done)) (fail)
  all_goals
    go_wp2_with fail
    exact bodyPost_ret (v := .tuple #[.pointer (some ⟨k'.p, 0, none⟩), .agg #[.slice q.AL q.L.length q.cL, .slice q.AW q.W.length q.cW, .int .i64 q.armed, .int .i64 (q.lim : Int), .int .i64 (q.done : Int)], .bool true]) (by simp [results, Try.results13, go_sem, y0, y1, y2, y3, y4, hz]) rfl ⟨k', q, rfl, Went.box HP.out ((((Keeps.refl [] w).alloc _).alloc _).alloc _) (Went.crashed (HP.out.grow ((((Keeps.refl [] w).alloc _).alloc _).alloc _)) HD.out HDAT.out HALL.out HK1.out HQ.out HQA.out HQQ.out HK2.out (Keeps.refl [] w2)) (((Keeps.five (w.heap.size + 1 + 1) _ _ _ _ _).alloc _).drew) (by omega) (by simp)⟩

end Go.Proofs.Ytadpomclnhemoaa
