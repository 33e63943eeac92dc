import Derived.Test.YtbfebljahjmjfaaGreatDoorQ33
import Derived.BigQuiet
import Derived.Test.YtbfebljahjmjfaaGreatDoorQ14
import Derived.Test.YtbfebljahjmjfaaGreatDoorQ15
import Derived.Test.YtbfebljahjmjfaaGreatDoorQ31
/- filter: readText; walked. -/
namespace Go.Proofs.YtbfebljahjmjfaaGreatDoor
open Go.RowKit Go.Shelf
set_option linter.unusedVariables false
set_option linter.unusedSimpArgs false
set_option maxRecDepth 100000

/-- How readText ends. -/
def RtxQ (T : Txt) (w : World) (e : Ending) (w' : World) : Prop :=
 ((∃ t h, rdT T = some t ∧ e = .returned (FH.val h) ∧ ∀ (E : List Nat) X, (∀ x ∈ E, x < w.heap.size) → Keeps E w' X → FilAt X t h) ∨ rdT T = none ∧ e = gaveUp8 180) ∧ Keeps [] w w'
theorem rdT_none {T : Txt} (h : rdF 402 1 0 T = none) : rdT T = none := by unfold rdT; rw [h]
theorem rdT_some {T : Txt} {t : FV} {n : Nat} (h : rdF 402 1 0 T = some (t, n, [])) : rdT T = some t := by unfold rdT; rw [h]
theorem rdT_more {T R : Txt} {t : FV} {n : Nat} (h : rdF 402 1 0 T = some (t, n, R)) (hR : R ≠ []) : rdT T = none := by
 unfold rdT; rw [h]
 cases R with
 | nil => exact absurd rfl hR
 | cons a b => rfl
set_option maxHeartbeats 8000000 in
theorem readtext_is (T : Txt) (w : World) (hT : T.length ≤ 1000000000) (hG : SgnAt w) (hs : SynAt w) :
  Calls Tryz.prog 31 #[tv T] w (RtxQ T w) := by
 have hmf : ∀ (fn : Fn) (first cap : Array Value) (w : World), (Instr.makeFunc fn first cap).run Tryz.prog w = .ok (.func fn first cap) w := fun _ _ _ _ => rfl
 have HGA := Lib.hid (gate8_is 180)
 have HMY := Lib.hid (must8_yes 180)
 have HMN := Lib.hid (must8_no 180)
 have HG := Lib.hid hG
 have HS := Lib.hid hs
 have HT := Lib.hid hT
 clear hG hs hT
 unfold tv
 have k1 : Keeps [] w (w.alloc (.cells #[.int .i64 0, .slice none 0 0, .string ⟨#[]⟩, .string ⟨#[]⟩] 26)) := (Keeps.refl [] w).alloc _
 have b1 := heap_new8 w (.cells #[.int .i64 0, .slice none 0 0, .string ⟨#[]⟩, .string ⟨#[]⟩] 26)
 have k2 : Keeps [] (w.alloc (.cells #[.int .i64 0, .slice none 0 0, .string ⟨#[]⟩, .string ⟨#[]⟩] 26)) ((w.alloc (.cells #[.int .i64 0, .slice none 0 0, .string ⟨#[]⟩, .string ⟨#[]⟩] 26)).alloc (.cells #[.string ⟨T.toArray⟩] 113)) := (Keeps.refl [] _).alloc _
 have b2 := heap_new8 (w.alloc (.cells #[.int .i64 0, .slice none 0 0, .string ⟨#[]⟩, .string ⟨#[]⟩] 26)) (.cells #[.string ⟨T.toArray⟩] 113)
 have HBR := Lib.hid (blk_keep b1 k2 (by simp))
 have HBT := Lib.hid b2
 have HKB := Lib.hid (k1.trans' k2)
 have HZ : Hid (((w.alloc (.cells #[.int .i64 0, .slice none 0 0, .string ⟨#[]⟩, .string ⟨#[]⟩] 26)).alloc (.cells #[.string ⟨T.toArray⟩] 113)).heap.size = w.heap.size + 2) := by show _ = _; simp
 simp only [World.size_alloc] at HBT
 clear k1 k2 b1 b2
 go_enter Tryz.func31, Tryz.ntmps31
 go_wp2_with fail
 generalize (w.alloc (.cells #[.int .i64 0, .slice none 0 0, .string ⟨#[]⟩, .string ⟨#[]⟩] 26)).alloc (.cells #[.string ⟨T.toArray⟩] 113) = W1 at HBR HBT HKB HZ ⊢
 refine (HGA.out W1).mono ?_
 rintro e w1 ⟨rfl, hp1, hk1⟩
 have HP1 := Lib.hid hp1
 have HK1 := Lib.hid hk1
 clear hp1 hk1 HGA
 have k4 : Keeps [] w1 (w1.alloc (.cells #[.func (.func 134) #[] #[.pointer (some ⟨W1.heap.size + 1, 0, none⟩), .pointer (some ⟨W1.heap.size, 0, none⟩)]] 114)) := (Keeps.refl [] w1).alloc _
 have b4 := heap_new8 w1 (.cells #[.func (.func 134) #[] #[.pointer (some ⟨W1.heap.size + 1, 0, none⟩), .pointer (some ⟨W1.heap.size, 0, none⟩)]] 114)
 have k5 : Keeps [] (w1.alloc (.cells #[.func (.func 134) #[] #[.pointer (some ⟨W1.heap.size + 1, 0, none⟩), .pointer (some ⟨W1.heap.size, 0, none⟩)]] 114)) ((w1.alloc (.cells #[.func (.func 134) #[] #[.pointer (some ⟨W1.heap.size + 1, 0, none⟩), .pointer (some ⟨W1.heap.size, 0, none⟩)]] 114)).alloc (.cells #[.func (.func 81) #[] #[.pointer (some ⟨w1.heap.size, 0, none⟩), .pointer (some ⟨w.heap.size + 1, 0, none⟩), .pointer (some ⟨w1.heap.size + 1, 0, none⟩)]] 116)) := (Keeps.refl [] _).alloc _
 have b5 := heap_new8 (w1.alloc (.cells #[.func (.func 134) #[] #[.pointer (some ⟨W1.heap.size + 1, 0, none⟩), .pointer (some ⟨W1.heap.size, 0, none⟩)]] 114)) (.cells #[.func (.func 81) #[] #[.pointer (some ⟨w1.heap.size, 0, none⟩), .pointer (some ⟨w.heap.size + 1, 0, none⟩), .pointer (some ⟨w1.heap.size + 1, 0, none⟩)]] 116)
 have HBP := Lib.hid (blk_keep b4 k5 (by simp))
 have HBN := Lib.hid b5
 have HK5 := Lib.hid (k4.trans' k5)
 simp only [World.size_alloc] at HBN
 clear k4 k5 b4 b5
 have y0 := cell_of_blk HBN.out 0
 go_wp2_with fail
 generalize (w1.alloc (.cells #[.func (.func 134) #[] #[.pointer (some ⟨W1.heap.size + 1, 0, none⟩), .pointer (some ⟨W1.heap.size, 0, none⟩)]] 114)).alloc (.cells #[.func (.func 81) #[] #[.pointer (some ⟨w1.heap.size, 0, none⟩), .pointer (some ⟨w.heap.size + 1, 0, none⟩), .pointer (some ⟨w1.heap.size + 1, 0, none⟩)]] 116) = W5 at HBP HBN HK5 y0 ⊢
 have hzw := HZ.out
 have hz1 := HK1.out.size
 have hz5 := HK5.out.size
 have hgm9 := lt_of_heap HP1.out.many
 have HKA := Lib.hid (HKB.out.trans' (HK1.out.trans' HK5.out))
 have HBR5 := Lib.hid (blk_keep (blk_keep HBR.out HK1.out (by simp)) HK5.out (by simp))
 have HREC := Lib.hid (readtc_is w1.heap.size (w.heap.size + 1) (w1.heap.size + 1) (W1.heap.size + 1) W1.heap.size w (by omega) (by omega) HG.out HS.out 402 1 0 T W5 (by decide) (by decide) (by decide) HT.out HKA.out ⟨cell_of_blk HBP.out 0, cell_of_blk HBN.out 0, by omega, by omega, by omega, by omega, by omega, by omega⟩ (HP1.out.keep HK5.out (by simp) (by simp)) (RstAt.keep (RstAt.keep HBT.out HK1.out (by simp)) HK5.out (by simp)))
 refine HREC.out.mono ?_
 rintro e w6 ⟨⟨t, n, R, h', hn, rfl, _, hr6, hf6⟩ | ⟨hn, rfl⟩, hk6⟩
 rotate_left
 ·have HQ := Lib.hid (rdT_none hn)
  have HK6 := Lib.hid (HKA.out.trans hk6 (fun x hx => .inr (by simp at hx; rcases hx with rfl | rfl <;> omega)))
  clear hn hk6 y0
  go_wp2_with fail
  exact ⟨rfl, .inr ⟨HQ.out, rfl⟩, HK6.out⟩
 ·have HN := Lib.hid hn
  have HF6 := Lib.hid hf6
  have HK6 := Lib.hid hk6
  have HKW6 := Lib.hid (HKA.out.trans hk6 (fun x hx => .inr (by simp at hx; rcases hx with rfl | rfl <;> omega)))
  have HBR6 := Lib.hid (blk_keep HBR5.out hk6 (by simp; omega))
  have hR0 := hr6.cells.1
  have HZ6 : Hid (w.heap.size + 2 ≤ w6.heap.size) := by show _ ≤ _; have := hk6.size; omega
  obtain ⟨k', B', lb', cb', s', v'⟩ := h'
  unfold FH.val tv
  dsimp only
  have HF7 := Lib.hid (heap_new8 w6 (.cells #[.int .i64 k', .slice B' lb' cb', .string ⟨s'.toArray⟩, .string ⟨v'.toArray⟩] 26))
  have HK7 : Hid (Keeps [] w6 (w6.alloc (.cells #[.int .i64 k', .slice B' lb' cb', .string ⟨s'.toArray⟩, .string ⟨v'.toArray⟩] 26))) := (Keeps.refl [] w6).alloc _
  have hR1 : (w6.alloc (.cells #[.int .i64 k', .slice B' lb' cb', .string ⟨s'.toArray⟩, .string ⟨v'.toArray⟩] 26)).cell? ⟨w.heap.size + 1, 0, none⟩ = some (.string ⟨R.toArray⟩) := (hr6.keep HK7.out (by simp)).cells.1
  have HBR7 := Lib.hid (blk_keep HBR6.out HK7.out (by simp))
  obtain ⟨⟨z0, z1, z2, z3⟩, _⟩ := four_facts8 HF7.out
  obtain ⟨⟨r0, r1, r2, r3⟩, s0, s1, s2, s3⟩ := four_facts8 HBR7.out
  clear hn hf6 hk6 hr6 hR0 y0
  cases R with
  | nil =>
   have HQ := Lib.hid (rdT_some HN.out)
   have hee : ((⟨([] : List UInt8).toArray⟩ : ByteArray) == ⟨#[]⟩) = true := by decide
   go_wp2_with fail
   refine (HMY.out _).mono ?_
   rintro e w8 ⟨rfl, rfl⟩
   obtain ⟨Rb, hRb⟩ : ∃ Rb, w.heap.size = Rb := ⟨_, rfl⟩
   have HRR := Lib.hid hRb
   rw [hRb] at HBR7 r0 r1 r2 r3 s0 s1 s2 s3 ⊢
   clear hRb hR1
   generalize w6.alloc (.cells #[.int .i64 k', .slice B' lb' cb', .string ⟨s'.toArray⟩, .string ⟨v'.toArray⟩] 26) = W7 at *
   go_wp2_with fail
   have HR6' := heap_setCell_same _ Rb 0 _ _ (.int .i64 k') HBR7.out
   have HR7' := heap_setCell_same _ Rb 1 _ _ (.slice B' lb' cb') HR6'
   have HR8' := heap_setCell_same _ Rb 2 _ _ (.string ⟨s'.toArray⟩) HR7'
   have HR9' := heap_setCell_same _ Rb 3 _ _ (.string ⟨v'.toArray⟩) HR8'
   refine bodyPost_ret (results_cell_row rfl _ _ Rb _ #[.int .i64 k', .slice B' lb' cb', .string ⟨s'.toArray⟩, .string ⟨v'.toArray⟩] (0, 0) _ rfl HR9' Tryz.underlying26 rfl (by kernel_rfl)) rfl ?_
   have k9 : Keeps [Rb] W7 ((((W7.setCell ⟨Rb, 0, none⟩ (.int .i64 k')).setCell ⟨Rb, 1, none⟩ (.slice B' lb' cb')).setCell ⟨Rb, 2, none⟩ (.string ⟨s'.toArray⟩)).setCell ⟨Rb, 3, none⟩ (.string ⟨v'.toArray⟩)) := ((((Keeps.refl [Rb] W7).setCell (.inl (by simp)) _).setCell (.inl (by simp)) _).setCell (.inl (by simp)) _).setCell (.inl (by simp)) _
   have hRe := HRR.out
   refine ⟨.inl ⟨t, ⟨k', B', lb', cb', s', v'⟩, HQ.out, rfl, fun E X hE hk => HF6.out (Rb :: E) X (fun x hx => ?_) (((HK7.out.mono (by simp)).trans k9 (fun x hx => .inl (by simp at hx; simp [hx]))).trans hk (fun x hx => .inl (List.mem_cons_of_mem _ hx)))⟩, (HKW6.out.trans' HK7.out).trans k9 (fun x hx => .inr (by rw [List.mem_singleton.1 hx]; omega))⟩
   rcases List.mem_cons.1 hx with hx | hx
   ·omega
   ·have := hE x hx
    omega
  | cons a U =>
   have HQ := Lib.hid (rdT_more HN.out (by simp))
   have hee : ((⟨(a :: U).toArray⟩ : ByteArray) == ⟨#[]⟩) = false := (tx_beq (a :: U) [] false rfl).1
   have HKX := Lib.hid (HKW6.out.trans' HK7.out)
   clear r0 r1 r2 r3 s0 s1 s2 s3 z0 z1 z2 z3
   go_wp2_with fail
   refine (HMN.out _).mono ?_
   rintro e w8 ⟨rfl, rfl⟩
   go_wp2_with fail
   exact ⟨rfl, .inr ⟨HQ.out, rfl⟩, HKX.out⟩
end Go.Proofs.YtbfebljahjmjfaaGreatDoor
/- filter: Parse; walked. -/
namespace Go.Proofs.YtbfebljahjmjfaaGreatDoor
open Go.RowKit Go.Shelf
set_option linter.unusedVariables false
set_option linter.unusedSimpArgs false
set_option maxRecDepth 100000

/-- Parse as words. -/
def parseF (T : Txt) : Option FV := match rdT T with
 | some t => if rightF t = true then some (lowF t) else none
 | none => none
/-- How Parse ends. -/
def PrsQ (T : Txt) (w : World) (e : Ending) (w' : World) : Prop :=
 ((∃ t h, parseF T = some t ∧ e = .returned (.tuple #[FH.val h, .int .i64 0]) ∧ FilAt w' t h) ∨ parseF T = none ∧ e = .returned (.tuple #[FH.val ⟨0, none, 0, 0, [], []⟩, .int .i64 180])) ∧ Keeps [] w w'
theorem results_fil_no {fn : Func} {p q : Tmp} (h : fn.results = #[.cell p 26, .cell q 27]) (tmps : Array Value) (w : World) (g k : Nat) (cs : Array Value) (x : Int) (fr : Nat × Nat)
  (hp : tmps.getD p undef = .pointer (some ⟨g, 0, none⟩)) (hq : tmps.getD q undef = .pointer (some ⟨k, 0, none⟩)) (hs : cs.size = 4) (hg : w.heap[g]? = some (.cells cs 26 fr)) (hk : w.heap[k]? = some (.cells #[.int .i64 x] 27 (0, 0))) :
  (results fn tmps).run Tryz.prog w = .ok (.tuple #[.agg cs, .int .i64 x]) w := by
 have hp' : tmps[p]?.getD undef = .pointer (some ⟨g, 0, none⟩) := by simpa using hp
 have hq' : tmps[q]?.getD undef = .pointer (some ⟨k, 0, none⟩) := by simpa using hq
 have hl := run_loadVar_row (P := Tryz.prog) w g 26 26 cs fr _ hg Tryz.underlying26 rfl (by rw [hs]; kernel_rfl)
 have hl2 : (loadVar 27 ⟨k, 0, none⟩).run Tryz.prog w = .ok (.int .i64 x) w := by
  have hc := cell_of_blk hk 0
  simp only [List.getElem?_toArray, List.getElem?_cons_zero] at hc
  simp [go_sem, hc]
 simp [results, h, hp', hq', asAddr, hl, hl2, Sem.run_bind, Result.andThen]
set_option maxHeartbeats 8000000 in
theorem fparse_is (T : Txt) (w : World) (hT : T.length ≤ 1000000000) (hG : SgnAt w) (hs : SynAt w) :
  Calls Tryz.prog 9 #[tv T] w (PrsQ T w) := by
 have hmf : ∀ (fn : Fn) (first cap : Array Value) (w : World), (Instr.makeFunc fn first cap).run Tryz.prog w = .ok (.func fn first cap) w := fun _ _ _ _ => rfl
 obtain ⟨W0, hW0⟩ : ∃ W0, (w.alloc (.cells #[.int .i64 0, .slice none 0 0, .string ⟨#[]⟩, .string ⟨#[]⟩] 26)).alloc (.cells #[.int .i64 0] 27) = W0 := ⟨_, rfl⟩
 have hk0 : Keeps [] w W0 := by rw [← hW0]; exact ((Keeps.refl [] w).alloc _).alloc _
 have hr0 : W0.heap[w.heap.size]? = some (.cells #[.int .i64 0, .slice none 0 0, .string ⟨#[]⟩, .string ⟨#[]⟩] 26 (0, 0)) := by rw [← hW0]; exact (Below.heap_alloc _ _ _ (by simp)).trans (heap_new8 w _)
 have hr1 : W0.heap[w.heap.size + 1]? = some (.cells #[.int .i64 0] 27 (0, 0)) := by
  rw [← hW0]
  have h9 := heap_new8 (w.alloc (.cells #[.int .i64 0, .slice none 0 0, .string ⟨#[]⟩, .string ⟨#[]⟩] 26)) (.cells #[.int .i64 0] 27)
  rwa [World.size_alloc] at h9
 have hz0 : W0.heap.size = w.heap.size + 2 := by rw [← hW0]; simp
 have HR0 := Lib.hid (fun X (hk : Keeps [] W0 X) => blk_keep hr0 hk (by simp))
 have HR1 := Lib.hid (fun X (hk : Keeps [] W0 X) => blk_keep hr1 hk (by simp))
 have HK0 := Lib.hid hk0
 have HZ0 := Lib.hid hz0
 have HV := Lib.hid (readtext_is T W0 hT (hG.keep hk0) (hs.keep hk0 (by simp)))
 have HSO := Lib.hid (fun t h X (ht : FilAt X t h) => sound_is 180 t h X ht)
 clear hk0 hr0 hr1 hz0 hT hG hs
 have fin : ∀ (w3 : World), Keeps [] W0 w3 → parseF T = none → ∀ fn : Array Value, fn.getD 2 undef = .pointer (some ⟨w.heap.size, 0, none⟩) → fn.getD 3 undef = .pointer (some ⟨w.heap.size + 1, 0, none⟩) →
   ∃ v, (results Tryz.f9 fn).run Tryz.prog (w3.setCell ⟨w.heap.size + 1, 0, none⟩ (.int .i64 180)) = .ok v (w3.setCell ⟨w.heap.size + 1, 0, none⟩ (.int .i64 180)) ∧ PrsQ T w (.returned v) (w3.setCell ⟨w.heap.size + 1, 0, none⟩ (.int .i64 180)) := by
  intro w3 hk hd fn h2 h3
  have hks : Keeps [w.heap.size + 1] w3 (w3.setCell ⟨w.heap.size + 1, 0, none⟩ (.int .i64 180)) := (Keeps.refl _ _).setCell (.inl (by simp)) _
  refine ⟨_, results_fil_no rfl fn _ w.heap.size (w.heap.size + 1) _ 180 (0, 0) h2 h3 rfl (blk_keep (HR0.out w3 hk) hks (by simp)) (heap_setCell_same _ _ 0 _ _ _ (HR1.out w3 hk)), .inr ⟨hd, rfl⟩, ?_⟩
  exact (HK0.out.trans' hk).setCell (.inr (Nat.le_succ _)) _
 have FIN := Lib.hid fin
 clear fin
 unfold tv at *
 go_enter_defers Tryz.func9, Tryz.ntmps9
 go_wp2_with fail
 refine HV.out.mono ?_
 rintro e w1 ⟨⟨t, h, hd, rfl, hf⟩ | ⟨hd, rfl⟩, hk1⟩
 rotate_left
 ·have HE : Hid (parseF T = none) := by show _ = _; unfold parseF; rw [hd]
  have hc := cell_of_blk (HR1.out w1 hk1) 0
  have hz := free_of_blk (HR1.out w1 hk1) 0
  have HK1 := Lib.hid hk1
  clear hd hk1
  go_wp2_with fail
  refine leaves_cons (f := 28) (args := #[.pointer (some ⟨w.heap.size + 1, 0, none⟩)]) (by simp) (by simp [go_sem]) ?_
  refine (fparse_panicking (w.heap.size + 1) 0 180 [] w1 hc hz).mono ?_
  rintro e u' w'' ⟨rfl, rfl, rfl⟩
  exact FIN.out w1 HK1.out HE.out _ rfl rfl
 ·have HD := Lib.hid hd
  have HK1 := Lib.hid hk1
  have HS1 := Lib.hid (HSO.out t h w1 (hf [] w1 (by simp) (Keeps.refl _ _)))
  obtain ⟨k, B, lb, cb, s, v⟩ := h
  unfold FH.val tv at *
  dsimp only at *
  clear hd hk1 hf
  go_wp2_with fail
  refine HS1.out.mono ?_
  rintro e w3 ⟨⟨h', hr, rfl, hp⟩ | ⟨hr, rfl⟩, hk2⟩
  ·have hk3 := HK1.out.trans' hk2
   have hr3 := HR0.out w3 hk3
   have hq3 := HR1.out w3 hk3
   obtain ⟨⟨c0, c1, c2, c3⟩, ⟨f0, f1, f2, f3⟩⟩ := four_facts8 hr3
   have hc := cell_of_blk hq3 0
   have hz := free_of_blk hq3 0
   simp only [List.getElem?_toArray, List.getElem?_cons_zero] at hc
   obtain ⟨k', B', lb', cb', s', v'⟩ := h'
   unfold FH.val tv
   have HR3 := Lib.hid hr3
   have HQ3 := Lib.hid hq3
   have HK3 := Lib.hid hk3
   have HP := Lib.hid hp
   have HE : Hid (parseF T = some (lowF t)) := by show _ = _; unfold parseF; rw [HD.out]; dsimp only; rw [if_pos hr]
   have HZ1 : Hid (w.heap.size + 2 ≤ w1.heap.size) := by show _ ≤ _; have := HZ0.out; have := HK1.out.size; omega
   clear hr3 hq3 hk3 hk2 hp hr
   go_wp2_with fail
   have HR6' := heap_setCell_same _ w.heap.size 0 _ _ (.int .i64 k') HR3.out
   have HR7' := heap_setCell_same _ w.heap.size 1 _ _ (.slice B' lb' cb') HR6'
   have HR8' := heap_setCell_same _ w.heap.size 2 _ _ (.string ⟨s'.toArray⟩) HR7'
   have hrow := heap_setCell_same _ w.heap.size 3 _ _ (.string ⟨v'.toArray⟩) HR8'
   have hks : Keeps [w.heap.size] w3 ((((w3.setCell ⟨w.heap.size, 0, none⟩ (.int .i64 k')).setCell ⟨w.heap.size, 1, none⟩ (.slice B' lb' cb')).setCell ⟨w.heap.size, 2, none⟩ (.string ⟨s'.toArray⟩)).setCell ⟨w.heap.size, 3, none⟩ (.string ⟨v'.toArray⟩)) := ((((Keeps.refl [w.heap.size] w3).setCell (.inl (by simp)) _).setCell (.inl (by simp)) _).setCell (.inl (by simp)) _).setCell (.inl (by simp)) _
   clear HR6' HR7' HR8'
   generalize (((w3.setCell ⟨w.heap.size, 0, none⟩ (.int .i64 k')).setCell ⟨w.heap.size, 1, none⟩ (.slice B' lb' cb')).setCell ⟨w.heap.size, 2, none⟩ (.string ⟨s'.toArray⟩)).setCell ⟨w.heap.size, 3, none⟩ (.string ⟨v'.toArray⟩) = W5 at *
   have hq5 := blk_keep HQ3.out hks (by simp)
   have hq6 : (W5.setCell ⟨w.heap.size + 1, 0, none⟩ (.int .i64 0)).heap[w.heap.size + 1]? = some (.cells #[.int .i64 0] 27 (0, 0)) := heap_setCell_same _ _ 0 _ _ _ hq5
   have hk6 : Keeps [w.heap.size + 1] W5 (W5.setCell ⟨w.heap.size + 1, 0, none⟩ (.int .i64 0)) := (Keeps.refl _ _).setCell (.inl (by simp)) _
   refine leaves_cons (f := 28) (args := #[.pointer (some ⟨w.heap.size + 1, 0, none⟩)]) (by simp) (by simp [go_sem]) ?_
   refine (fparse_idle (w.heap.size + 1) 0 _ (cell_of_blk hq6 0) (free_of_blk hq6 0)).mono ?_
   rintro e u' w'' ⟨rfl, rfl, rfl⟩
   have hk7 : Keeps [w.heap.size + 1] W5 ((W5.setCell ⟨w.heap.size + 1, 0, none⟩ (.int .i64 0)).setCell ⟨w.heap.size + 1, 0, none⟩ (.int .i64 0)) := hk6.setCell (.inl (by simp)) _
   have hkF : Keeps [w.heap.size, w.heap.size + 1] w3 ((W5.setCell ⟨w.heap.size + 1, 0, none⟩ (.int .i64 0)).setCell ⟨w.heap.size + 1, 0, none⟩ (.int .i64 0)) := (hks.mono (cs := [w.heap.size, w.heap.size + 1]) (by simp)).trans hk7 (fun y hy => .inl (by simp at hy; simp [hy]))
   have hzz := HZ1.out
   refine ⟨_, results_fil_no rfl _ _ w.heap.size (w.heap.size + 1) _ 0 (0, 0) rfl rfl rfl (blk_keep hrow hk7 (by simp)) (heap_setCell_same _ _ 0 _ _ _ hq6), .inl ⟨_, ⟨k', B', lb', cb', s', v'⟩, HE.out, rfl, HP.out _ _ (fun y hy => ?_) hkF⟩, (HK0.out.trans' HK3.out).trans hkF (fun y hy => .inr ?_)⟩
   ·simp at hy; omega
   ·simp at hy; omega
  ·have HE : Hid (parseF T = none) := by show _ = _; unfold parseF; rw [HD.out]; dsimp only; rw [if_neg (by rw [hr]; simp)]
   have hk3 := HK1.out.trans' hk2
   have hc := cell_of_blk (HR1.out w3 hk3) 0
   have hz := free_of_blk (HR1.out w3 hk3) 0
   have HK3 := Lib.hid hk3
   clear hr hk2 hk3
   go_wp2_with fail
   refine leaves_cons (f := 28) (args := #[.pointer (some ⟨w.heap.size + 1, 0, none⟩)]) (by simp) (by simp [go_sem]) ?_
   refine (fparse_panicking (w.heap.size + 1) 0 180 [] w3 hc hz).mono ?_
   rintro e u' w'' ⟨rfl, rfl, rfl⟩
   exact FIN.out w3 HK3.out HE.out _ rfl rfl
end Go.Proofs.YtbfebljahjmjfaaGreatDoor
/- filter: what the document reads off a text the program reads: Parse as words is one. -/
namespace Go.Proofs.YtbfebljahjmjfaaGreatDoor
open Go.RowKit Go.Shelf
set_option linter.unusedVariables false
set_option linter.unusedSimpArgs false
set_option maxRecDepth 100000

theorem shut_no {t x : FV} {X R : Txt} (h : shutR t X = some (x, R)) : begP [41] X = true ∧ aloneF t = true ∧ x = t ∧ R = X.drop 1 := by
 unfold shutR at h
 split at h
 ·rename_i hc
  injection h with h; injection h with h1 h2
  exact ⟨hc.1, hc.2, h1.symm, h2.symm⟩
 ·cases h
mutual
theorem rd_of_one : ∀ (g d m : Nat) (T : Txt) (x : FV) (R : Txt) (n : Nat), oneR g d T = some (x, R) → thruF aloneF d m x = some n → ∀ f, 2 * (n - m) ≤ f → ∃ t, rdF f d m T = some (t, n, R) ∧ lowF t = x
 | 0, d, m, T, x, R, n, h, ht, f, hf => by unfold oneR at h; cases h
 | g + 1, d, m, T, x, R, n, h, ht, f, hf => by
  have hle := thruF_le aloneF x d m n ht
  unfold oneR at h
  split at h
  ·rename_i hc
   cases f with
   | zero => omega
   | succ f =>
    split at h
    ·rename_i hs
     split at h
     ·cases h
     ·rename_i q s v X hlf
      obtain ⟨hX, hal, rfl, rfl⟩ := shut_no h
      obtain ⟨z, R1, hh, hz, hR1, hdr⟩ := leaf_from hs hlf hX
      obtain ⟨hm, hd, hthr, _⟩ := thru_up ht
      have h0 : thruL aloneF (d + 1) (m + 1) [] = some (m + 1) := by unfold thruL; rfl
      rw [h0] at hthr
      injection hthr with hthr
      subst hthr
      refine ⟨.mk q [] z v, ?_, by unfold lowF; rw [hz]; simp [lowFL]⟩
      unfold rdF
      rw [if_pos ⟨hm, hd⟩, if_pos hc.2.2, hh]
      dsimp only
      rw [if_neg (head_leafk hs hh)]
      dsimp only
      rw [if_pos hR1, hdr]
    ·rename_i hs
     split at h
     ·cases h
     ·rename_i l X hmy
      obtain ⟨hX, hal, rfl, rfl⟩ := shut_no h
      obtain ⟨hm, hd, hthr, _⟩ := thru_up ht
      obtain ⟨hh, h3⟩ := head_sgn hs
      rw [show T.drop 2 = (T.drop 1).drop 1 by rw [List.drop_drop]] at hmy
      obtain ⟨r, hr, hlow⟩ := rd_of_many g d (m + 1) 0 _ l X n hmy hthr f (by omega)
      refine ⟨.mk (sgnR (T.drop 1) : Int) r [] [], ?_, by unfold lowF; rw [hlow]; rfl⟩
      unfold rdF
      rw [if_pos ⟨hm, hd⟩, if_pos hc.2.2, hh]
      dsimp only
      rw [if_pos (by omega), hr]
      dsimp only
      rw [if_pos hX]
  ·cases h
theorem rd_of_many : ∀ (g d m k : Nat) (T : Txt) (l : List FV) (R : Txt) (n : Nat), manyR g d k T = some (l, R) → thruL aloneF (d + 1) m l = some n → ∀ f, 2 * (n - m) + 1 ≤ f → ∃ r, rdL f (d + 1) m T = some (r, n, R) ∧ lowFL r = l
 | 0, d, m, k, T, l, R, n, h, ht, f, hf => by unfold manyR at h; cases h
 | g + 1, d, m, k, T, l, R, n, h, ht, f, hf => by
  cases f with
  | zero => omega
  | succ f =>
   unfold manyR at h
   split at h
   ·rename_i h40
    split at h
    ·cases h
    ·rename_i x R1 ho
     split at h
     ·cases h
     ·split at h
      ·cases h
      ·rename_i l2 R2 hmy
       injection h with h; injection h with h1 h2
       subst h1 h2
       unfold thruL at ht
       split at ht
       ·cases ht
       ·rename_i n5 hto
        have hle5 := thruF_le aloneF x _ _ _ hto
        have hle6 := thruL_le aloneF l2 _ _ _ ht
        obtain ⟨t, h5, e5⟩ := rd_of_one g (d + 1) m T x R1 n5 ho hto f (by omega)
        obtain ⟨r, h6, e6⟩ := rd_of_many g d n5 (k + 1) R1 l2 R2 n hmy ht f (by omega)
        refine ⟨t :: r, ?_, by simp [lowFL, e5, e6]⟩
        unfold rdL
        rw [if_pos h40, h5]
        dsimp only
        rw [h6]
   ·rename_i h40
    injection h with h; injection h with h1 h2
    subst h1 h2
    unfold thruL at ht
    injection ht with ht
    subst ht
    refine ⟨[], ?_, by simp [lowFL]⟩
    unfold rdL
    rw [if_neg h40]
end
theorem right_some {t : FV} (h : rightF t = true) : ∃ n, thruF aloneF 1 0 t = some n := by
 unfold rightF at h
 cases h2 : thruF aloneF 1 0 t with
 | none => rw [h2] at h; cases h
 | some n => exact ⟨n, rfl⟩
theorem parse_to (T : Txt) (x : FV) (h : parseF T = some x) : parseR T = some x := by
 unfold parseF at h
 split at h
 ·rename_i t ht
  split at h
  ·rename_i hr
   injection h with h
   subst h
   unfold rdT at ht
   split at ht
   ·rename_i t2 n hrd
    injection ht with ht
    subst ht
    obtain ⟨n2, hn2⟩ := right_some hr
    have h2 := (one_of_rd 402 1 0 T _ n [] n2 hrd hn2).2 (2 * T.length + 2) (by omega)
    unfold parseR
    rw [h2]
    dsimp only
    rw [rightF_low, if_pos hr]
   ·cases ht
  ·cases h
 ·cases h
theorem parse_from (T : Txt) (x : FV) (h : parseR T = some x) : parseF T = some x := by
 unfold parseR at h
 split at h
 ·rename_i t ho
  split at h
  ·rename_i hr
   injection h with h
   subst h
   obtain ⟨n, hn⟩ := right_some hr
   have hle := thruF_le aloneF t _ _ _ hn
   obtain ⟨u, h5, e5⟩ := rd_of_one _ 1 0 T t [] n ho hn 402 (by omega)
   unfold parseF rdT
   rw [h5]
   dsimp only
   rw [← rightF_low, e5, if_pos hr]
  ·cases h
 ·cases h
/-- The document's Parse, as words, is the program's. -/
theorem parse_same (T : Txt) : parseR T = parseF T := by
 cases h : parseF T with
 | some x => exact parse_to T x h
 | none =>
  cases h2 : parseR T with
  | none => rfl
  | some x => rw [parse_from T x h2] at h; cases h
end Go.Proofs.YtbfebljahjmjfaaGreatDoor
