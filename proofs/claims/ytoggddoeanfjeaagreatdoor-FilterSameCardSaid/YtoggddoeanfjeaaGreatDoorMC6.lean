/- Texts of one proof, laid together: F40 F41. -/
import Derived.Test.YtoggddoeanfjeaaGreatDoorMC5
import Derived.BigQuiet
import Derived.Test.YtoggddoeanfjeaaGreatDoorMB7
/- filter: readText; walked. -/
namespace Go.Proofs.YtoggddoeanfjeaaGreatDoor
open Go.RowKit Go.Shelf
set_option linter.unusedVariables false
set_option linter.unusedSimpArgs false
set_option maxRecDepth 100000

/-- How readText ends. -/
def RtxQ (T : Txt) (w : World) (e : Ending) (w' : World) : Prop :=
  ((∃ t h, rdT T = some t ∧ e = .returned (FH.val h) ∧ ∀ (E : List Nat) X, (∀ x ∈ E, x < w.heap.size) → Keeps E w' X → FilAt X t h) ∨ rdT T = none ∧ e = gaveUp8 180) ∧ Keeps [] w w'
theorem rdT_none {T : Txt} (h : rdF 402 1 0 T = none) : rdT T = none := by unfold rdT; rw [h]
theorem rdT_some {T : Txt} {t : FV} {n : Nat} (h : rdF 402 1 0 T = some (t, n, [])) : rdT T = some t := by unfold rdT; rw [h]
theorem rdT_more {T R : Txt} {t : FV} {n : Nat} (h : rdF 402 1 0 T = some (t, n, R)) (hR : R ≠ []) : rdT T = none := by
  unfold rdT; rw [h]
  cases R with
  | nil => exact absurd rfl hR
  | cons a b => rfl
set_option maxHeartbeats 8000000 in
theorem readtext_is (T : Txt) (w : World) (hT : T.length ≤ 1000000000) (hG : SgnAt w) (hs : SynAt w) :
    Calls Tryz.prog 41 #[tv T] w (RtxQ T w) := by
  have hmf : ∀ (fn : Fn) (first cap : Array Value) (w : World), (Instr.makeFunc fn first cap).run Tryz.prog w = .ok (.func fn first cap) w := fun _ _ _ _ => rfl
  have HGA := Lib.hid (gate8_is 180)
  have HMY := Lib.hid (must8_yes 180)
  have HMN := Lib.hid (must8_no 180)
  have HG := Lib.hid hG
  have HS := Lib.hid hs
  have HT := Lib.hid hT
  clear hG hs hT
  unfold tv
  have k1 : Keeps [] w (w.alloc (.cells #[.int .i64 0, .slice none 0 0, .string ⟨#[]⟩, .string ⟨#[]⟩] 25)) := (Keeps.refl [] w).alloc _
  have b1 := heap_new8 w (.cells #[.int .i64 0, .slice none 0 0, .string ⟨#[]⟩, .string ⟨#[]⟩] 25)
  have k2 : Keeps [] (w.alloc (.cells #[.int .i64 0, .slice none 0 0, .string ⟨#[]⟩, .string ⟨#[]⟩] 25)) ((w.alloc (.cells #[.int .i64 0, .slice none 0 0, .string ⟨#[]⟩, .string ⟨#[]⟩] 25)).alloc (.cells #[.string ⟨T.toArray⟩] 90)) := (Keeps.refl [] _).alloc _
  have b2 := heap_new8 (w.alloc (.cells #[.int .i64 0, .slice none 0 0, .string ⟨#[]⟩, .string ⟨#[]⟩] 25)) (.cells #[.string ⟨T.toArray⟩] 90)
  have HBR := Lib.hid (blk_keep b1 k2 (by simp))
  have HBT := Lib.hid b2
  have HKB := Lib.hid (k1.trans' k2)
  have HZ : Hid (((w.alloc (.cells #[.int .i64 0, .slice none 0 0, .string ⟨#[]⟩, .string ⟨#[]⟩] 25)).alloc (.cells #[.string ⟨T.toArray⟩] 90)).heap.size = w.heap.size + 2) := by show _ = _; simp
  simp only [World.size_alloc] at HBT
  clear k1 k2 b1 b2
  go_enter Tryz.func41, Tryz.ntmps41
  go_wp2_with fail
  generalize (w.alloc (.cells #[.int .i64 0, .slice none 0 0, .string ⟨#[]⟩, .string ⟨#[]⟩] 25)).alloc (.cells #[.string ⟨T.toArray⟩] 90) = W1 at HBR HBT HKB HZ ⊢
  refine (HGA.out W1).mono ?_
  rintro e w1 ⟨rfl, hp1, hk1⟩
  have HP1 := Lib.hid hp1
  have HK1 := Lib.hid hk1
  clear hp1 hk1 HGA
  have k4 : Keeps [] w1 (w1.alloc (.cells #[.func (.func 92) #[] #[.pointer (some ⟨W1.heap.size + 1, 0, none⟩), .pointer (some ⟨W1.heap.size, 0, none⟩)]] 91)) := (Keeps.refl [] w1).alloc _
  have b4 := heap_new8 w1 (.cells #[.func (.func 92) #[] #[.pointer (some ⟨W1.heap.size + 1, 0, none⟩), .pointer (some ⟨W1.heap.size, 0, none⟩)]] 91)
  have k5 : Keeps [] (w1.alloc (.cells #[.func (.func 92) #[] #[.pointer (some ⟨W1.heap.size + 1, 0, none⟩), .pointer (some ⟨W1.heap.size, 0, none⟩)]] 91)) ((w1.alloc (.cells #[.func (.func 92) #[] #[.pointer (some ⟨W1.heap.size + 1, 0, none⟩), .pointer (some ⟨W1.heap.size, 0, none⟩)]] 91)).alloc (.cells #[.func (.func 64) #[] #[.pointer (some ⟨w1.heap.size, 0, none⟩), .pointer (some ⟨w.heap.size + 1, 0, none⟩), .pointer (some ⟨w1.heap.size + 1, 0, none⟩)]] 93)) := (Keeps.refl [] _).alloc _
  have b5 := heap_new8 (w1.alloc (.cells #[.func (.func 92) #[] #[.pointer (some ⟨W1.heap.size + 1, 0, none⟩), .pointer (some ⟨W1.heap.size, 0, none⟩)]] 91)) (.cells #[.func (.func 64) #[] #[.pointer (some ⟨w1.heap.size, 0, none⟩), .pointer (some ⟨w.heap.size + 1, 0, none⟩), .pointer (some ⟨w1.heap.size + 1, 0, none⟩)]] 93)
  have HBP := Lib.hid (blk_keep b4 k5 (by simp))
  have HBN := Lib.hid b5
  have HK5 := Lib.hid (k4.trans' k5)
  simp only [World.size_alloc] at HBN
  clear k4 k5 b4 b5
  have y0 := cell_of_blk HBN.out 0
  go_wp2_with fail
  generalize (w1.alloc (.cells #[.func (.func 92) #[] #[.pointer (some ⟨W1.heap.size + 1, 0, none⟩), .pointer (some ⟨W1.heap.size, 0, none⟩)]] 91)).alloc (.cells #[.func (.func 64) #[] #[.pointer (some ⟨w1.heap.size, 0, none⟩), .pointer (some ⟨w.heap.size + 1, 0, none⟩), .pointer (some ⟨w1.heap.size + 1, 0, none⟩)]] 93) = W5 at HBP HBN HK5 y0 ⊢
  have hzw := HZ.out
  have hz1 := HK1.out.size
  have hz5 := HK5.out.size
  have hgm9 := lt_of_heap HP1.out.many
  have HKA := Lib.hid (HKB.out.trans' (HK1.out.trans' HK5.out))
  have HBR5 := Lib.hid (blk_keep (blk_keep HBR.out HK1.out (by simp)) HK5.out (by simp))
  have HREC := Lib.hid (readtc_is w1.heap.size (w.heap.size + 1) (w1.heap.size + 1) (W1.heap.size + 1) W1.heap.size w (by omega) (by omega) HG.out HS.out 402 1 0 T W5 (by decide) (by decide) (by decide) HT.out HKA.out ⟨cell_of_blk HBP.out 0, cell_of_blk HBN.out 0, by omega, by omega, by omega, by omega, by omega, by omega⟩ (HP1.out.keep HK5.out (by simp) (by simp)) (RstAt.keep (RstAt.keep HBT.out HK1.out (by simp)) HK5.out (by simp)))
  refine HREC.out.mono ?_
  rintro e w6 ⟨⟨t, n, R, h', hn, rfl, _, hr6, hf6⟩ | ⟨hn, rfl⟩, hk6⟩
  rotate_left
  · have HQ := Lib.hid (rdT_none hn)
    have HK6 := Lib.hid (HKA.out.trans hk6 (fun x hx => .inr (by simp at hx; rcases hx with rfl | rfl <;> omega)))
    clear hn hk6 y0
    go_wp2_with fail
    exact ⟨rfl, .inr ⟨HQ.out, rfl⟩, HK6.out⟩
  · have HN := Lib.hid hn
    have HF6 := Lib.hid hf6
    have HK6 := Lib.hid hk6
    have HKW6 := Lib.hid (HKA.out.trans hk6 (fun x hx => .inr (by simp at hx; rcases hx with rfl | rfl <;> omega)))
    have HBR6 := Lib.hid (blk_keep HBR5.out hk6 (by simp; omega))
    have hR0 := hr6.cells.1
    have HZ6 : Hid (w.heap.size + 2 ≤ w6.heap.size) := by show _ ≤ _; have := hk6.size; omega
    obtain ⟨k', B', lb', cb', s', v'⟩ := h'
    unfold FH.val tv
    dsimp only
    have HF7 := Lib.hid (heap_new8 w6 (.cells #[.int .i64 k', .slice B' lb' cb', .string ⟨s'.toArray⟩, .string ⟨v'.toArray⟩] 25))
    have HK7 : Hid (Keeps [] w6 (w6.alloc (.cells #[.int .i64 k', .slice B' lb' cb', .string ⟨s'.toArray⟩, .string ⟨v'.toArray⟩] 25))) := (Keeps.refl [] w6).alloc _
    have hR1 : (w6.alloc (.cells #[.int .i64 k', .slice B' lb' cb', .string ⟨s'.toArray⟩, .string ⟨v'.toArray⟩] 25)).cell? ⟨w.heap.size + 1, 0, none⟩ = some (.string ⟨R.toArray⟩) := (hr6.keep HK7.out (by simp)).cells.1
    have HBR7 := Lib.hid (blk_keep HBR6.out HK7.out (by simp))
    obtain ⟨⟨z0, z1, z2, z3⟩, _⟩ := four_facts8 HF7.out
    obtain ⟨⟨r0, r1, r2, r3⟩, s0, s1, s2, s3⟩ := four_facts8 HBR7.out
    clear hn hf6 hk6 hr6 hR0 y0
    cases R with
    | nil =>
      have HQ := Lib.hid (rdT_some HN.out)
      have hee : ((⟨([] : List UInt8).toArray⟩ : ByteArray) == ⟨#[]⟩) = true := by decide
      go_wp2_with fail
      refine (HMY.out _).mono ?_
      rintro e w8 ⟨rfl, rfl⟩
      obtain ⟨Rb, hRb⟩ : ∃ Rb, w.heap.size = Rb := ⟨_, rfl⟩
      have HRR := Lib.hid hRb
      rw [hRb] at HBR7 r0 r1 r2 r3 s0 s1 s2 s3 ⊢
      clear hRb hR1
      generalize w6.alloc (.cells #[.int .i64 k', .slice B' lb' cb', .string ⟨s'.toArray⟩, .string ⟨v'.toArray⟩] 25) = W7 at *
      go_wp2_with fail
      have HR6' := heap_setCell_same _ Rb 0 _ _ (.int .i64 k') HBR7.out
      have HR7' := heap_setCell_same _ Rb 1 _ _ (.slice B' lb' cb') HR6'
      have HR8' := heap_setCell_same _ Rb 2 _ _ (.string ⟨s'.toArray⟩) HR7'
      have HR9' := heap_setCell_same _ Rb 3 _ _ (.string ⟨v'.toArray⟩) HR8'
      refine bodyPost_ret (results_cell_row rfl _ _ Rb _ #[.int .i64 k', .slice B' lb' cb', .string ⟨s'.toArray⟩, .string ⟨v'.toArray⟩] (0, 0) _ rfl HR9' Tryz.underlying25 rfl (by kernel_rfl)) rfl ?_
      have k9 : Keeps [Rb] W7 ((((W7.setCell ⟨Rb, 0, none⟩ (.int .i64 k')).setCell ⟨Rb, 1, none⟩ (.slice B' lb' cb')).setCell ⟨Rb, 2, none⟩ (.string ⟨s'.toArray⟩)).setCell ⟨Rb, 3, none⟩ (.string ⟨v'.toArray⟩)) := ((((Keeps.refl [Rb] W7).setCell (.inl (by simp)) _).setCell (.inl (by simp)) _).setCell (.inl (by simp)) _).setCell (.inl (by simp)) _
      have hRe := HRR.out
      refine ⟨.inl ⟨t, ⟨k', B', lb', cb', s', v'⟩, HQ.out, rfl, fun E X hE hk => HF6.out (Rb :: E) X (fun x hx => ?_) (((HK7.out.mono (by simp)).trans k9 (fun x hx => .inl (by simp at hx; simp [hx]))).trans hk (fun x hx => .inl (List.mem_cons_of_mem _ hx)))⟩, (HKW6.out.trans' HK7.out).trans k9 (fun x hx => .inr (by rw [List.mem_singleton.1 hx]; omega))⟩
      rcases List.mem_cons.1 hx with hx | hx
      · omega
      · have := hE x hx
        omega
    | cons a U =>
      have HQ := Lib.hid (rdT_more HN.out (by simp))
      have hee : ((⟨(a :: U).toArray⟩ : ByteArray) == ⟨#[]⟩) = false := (tx_beq (a :: U) [] false rfl).1
      have HKX := Lib.hid (HKW6.out.trans' HK7.out)
      clear r0 r1 r2 r3 s0 s1 s2 s3 z0 z1 z2 z3
      go_wp2_with fail
      refine (HMN.out _).mono ?_
      rintro e w8 ⟨rfl, rfl⟩
      go_wp2_with fail
      exact ⟨rfl, .inr ⟨HQ.out, rfl⟩, HKX.out⟩
end Go.Proofs.YtoggddoeanfjeaaGreatDoor
/- filter: Parse; walked. -/
namespace Go.Proofs.YtoggddoeanfjeaaGreatDoor
open Go.RowKit Go.Shelf
set_option linter.unusedVariables false
set_option linter.unusedSimpArgs false
set_option maxRecDepth 100000

/-- Parse as words. -/
def parseF (T : Txt) : Option FV := match rdT T with
  | some t => if rightF t = true then some (lowF t) else none
  | none => none
/-- How Parse ends. -/
def PrsQ (T : Txt) (w : World) (e : Ending) (w' : World) : Prop :=
  ((∃ t h, parseF T = some t ∧ e = .returned (.tuple #[FH.val h, .int .i64 0]) ∧ FilAt w' t h) ∨ parseF T = none ∧ e = .returned (.tuple #[FH.val ⟨0, none, 0, 0, [], []⟩, .int .i64 180])) ∧ Keeps [] w w'
theorem results_fil_no {fn : Func} {p q : Tmp} (h : fn.results = #[.cell p 25, .cell q 31]) (tmps : Array Value) (w : World) (g k : Nat) (cs : Array Value) (x : Int) (fr : Nat × Nat)
    (hp : tmps.getD p undef = .pointer (some ⟨g, 0, none⟩)) (hq : tmps.getD q undef = .pointer (some ⟨k, 0, none⟩)) (hs : cs.size = 4) (hg : w.heap[g]? = some (.cells cs 25 fr)) (hk : w.heap[k]? = some (.cells #[.int .i64 x] 31 (0, 0))) :
    (results fn tmps).run Tryz.prog w = .ok (.tuple #[.agg cs, .int .i64 x]) w := by
  have hp' : tmps[p]?.getD undef = .pointer (some ⟨g, 0, none⟩) := by simpa using hp
  have hq' : tmps[q]?.getD undef = .pointer (some ⟨k, 0, none⟩) := by simpa using hq
  have hl := run_loadVar_row (P := Tryz.prog) w g 25 25 cs fr _ hg Tryz.underlying25 rfl (by rw [hs]; kernel_rfl)
  have hl2 : (loadVar 31 ⟨k, 0, none⟩).run Tryz.prog w = .ok (.int .i64 x) w := by
    have hc := cell_of_blk hk 0
    simp only [List.getElem?_toArray, List.getElem?_cons_zero] at hc
    simp [go_sem, hc]
  simp [results, h, hp', hq', asAddr, hl, hl2, Sem.run_bind, Result.andThen]
set_option maxHeartbeats 8000000 in
theorem fparse_is (T : Txt) (w : World) (hT : T.length ≤ 1000000000) (hG : SgnAt w) (hs : SynAt w) :
    Calls Tryz.prog 18 #[tv T] w (PrsQ T w) := by
  have hmf : ∀ (fn : Fn) (first cap : Array Value) (w : World), (Instr.makeFunc fn first cap).run Tryz.prog w = .ok (.func fn first cap) w := fun _ _ _ _ => rfl
  obtain ⟨W0, hW0⟩ : ∃ W0, (w.alloc (.cells #[.int .i64 0, .slice none 0 0, .string ⟨#[]⟩, .string ⟨#[]⟩] 25)).alloc (.cells #[.int .i64 0] 31) = W0 := ⟨_, rfl⟩
  have hk0 : Keeps [] w W0 := by rw [← hW0]; exact ((Keeps.refl [] w).alloc _).alloc _
  have hr0 : W0.heap[w.heap.size]? = some (.cells #[.int .i64 0, .slice none 0 0, .string ⟨#[]⟩, .string ⟨#[]⟩] 25 (0, 0)) := by rw [← hW0]; exact (Below.heap_alloc _ _ _ (by simp)).trans (heap_new8 w _)
  have hr1 : W0.heap[w.heap.size + 1]? = some (.cells #[.int .i64 0] 31 (0, 0)) := by
    rw [← hW0]
    have h9 := heap_new8 (w.alloc (.cells #[.int .i64 0, .slice none 0 0, .string ⟨#[]⟩, .string ⟨#[]⟩] 25)) (.cells #[.int .i64 0] 31)
    rwa [World.size_alloc] at h9
  have hz0 : W0.heap.size = w.heap.size + 2 := by rw [← hW0]; simp
  have HR0 := Lib.hid (fun X (hk : Keeps [] W0 X) => blk_keep hr0 hk (by simp))
  have HR1 := Lib.hid (fun X (hk : Keeps [] W0 X) => blk_keep hr1 hk (by simp))
  have HK0 := Lib.hid hk0
  have HZ0 := Lib.hid hz0
  have HV := Lib.hid (readtext_is T W0 hT (hG.keep hk0) (hs.keep hk0 (by simp)))
  have HSO := Lib.hid (fun t h X (ht : FilAt X t h) => sound_is 180 t h X ht)
  clear hk0 hr0 hr1 hz0 hT hG hs
  have fin : ∀ (w3 : World), Keeps [] W0 w3 → parseF T = none → ∀ fn : Array Value, fn.getD 2 undef = .pointer (some ⟨w.heap.size, 0, none⟩) → fn.getD 3 undef = .pointer (some ⟨w.heap.size + 1, 0, none⟩) →
      ∃ v, (results Tryz.f18 fn).run Tryz.prog (w3.setCell ⟨w.heap.size + 1, 0, none⟩ (.int .i64 180)) = .ok v (w3.setCell ⟨w.heap.size + 1, 0, none⟩ (.int .i64 180)) ∧ PrsQ T w (.returned v) (w3.setCell ⟨w.heap.size + 1, 0, none⟩ (.int .i64 180)) := by
    intro w3 hk hd fn h2 h3
    have hks : Keeps [w.heap.size + 1] w3 (w3.setCell ⟨w.heap.size + 1, 0, none⟩ (.int .i64 180)) := (Keeps.refl _ _).setCell (.inl (by simp)) _
    refine ⟨_, results_fil_no rfl fn _ w.heap.size (w.heap.size + 1) _ 180 (0, 0) h2 h3 rfl (blk_keep (HR0.out w3 hk) hks (by simp)) (heap_setCell_same _ _ 0 _ _ _ (HR1.out w3 hk)), .inr ⟨hd, rfl⟩, ?_⟩
    exact (HK0.out.trans' hk).setCell (.inr (Nat.le_succ _)) _
  have FIN := Lib.hid fin
  clear fin
  unfold tv at *
  go_enter_defers Tryz.func18, Tryz.ntmps18
  go_wp2_with fail
  refine HV.out.mono ?_
  rintro e w1 ⟨⟨t, h, hd, rfl, hf⟩ | ⟨hd, rfl⟩, hk1⟩
  rotate_left
  · have HE : Hid (parseF T = none) := by show _ = _; unfold parseF; rw [hd]
    have hc := cell_of_blk (HR1.out w1 hk1) 0
    have hz := free_of_blk (HR1.out w1 hk1) 0
    have HK1 := Lib.hid hk1
    clear hd hk1
    go_wp2_with fail
    refine leaves_cons (f := 40) (args := #[.pointer (some ⟨w.heap.size + 1, 0, none⟩)]) (by simp) (by simp [go_sem]) ?_
    refine (fparse_panicking (w.heap.size + 1) 0 180 [] w1 hc hz).mono ?_
    rintro e u' w'' ⟨rfl, rfl, rfl⟩
    exact FIN.out w1 HK1.out HE.out _ rfl rfl
  · have HD := Lib.hid hd
    have HK1 := Lib.hid hk1
    have HS1 := Lib.hid (HSO.out t h w1 (hf [] w1 (by simp) (Keeps.refl _ _)))
    obtain ⟨k, B, lb, cb, s, v⟩ := h
    unfold FH.val tv at *
    dsimp only at *
    clear hd hk1 hf
    go_wp2_with fail
    refine HS1.out.mono ?_
    rintro e w3 ⟨⟨h', hr, rfl, hp⟩ | ⟨hr, rfl⟩, hk2⟩
    · have hk3 := HK1.out.trans' hk2
      have hr3 := HR0.out w3 hk3
      have hq3 := HR1.out w3 hk3
      obtain ⟨⟨c0, c1, c2, c3⟩, ⟨f0, f1, f2, f3⟩⟩ := four_facts8 hr3
      have hc := cell_of_blk hq3 0
      have hz := free_of_blk hq3 0
      simp only [List.getElem?_toArray, List.getElem?_cons_zero] at hc
      obtain ⟨k', B', lb', cb', s', v'⟩ := h'
      unfold FH.val tv
      have HR3 := Lib.hid hr3
      have HQ3 := Lib.hid hq3
      have HK3 := Lib.hid hk3
      have HP := Lib.hid hp
      have HE : Hid (parseF T = some (lowF t)) := by show _ = _; unfold parseF; rw [HD.out]; dsimp only; rw [if_pos hr]
      have HZ1 : Hid (w.heap.size + 2 ≤ w1.heap.size) := by show _ ≤ _; have := HZ0.out; have := HK1.out.size; omega
      clear hr3 hq3 hk3 hk2 hp hr
      go_wp2_with fail
      have HR6' := heap_setCell_same _ w.heap.size 0 _ _ (.int .i64 k') HR3.out
      have HR7' := heap_setCell_same _ w.heap.size 1 _ _ (.slice B' lb' cb') HR6'
      have HR8' := heap_setCell_same _ w.heap.size 2 _ _ (.string ⟨s'.toArray⟩) HR7'
      have hrow := heap_setCell_same _ w.heap.size 3 _ _ (.string ⟨v'.toArray⟩) HR8'
      have hks : Keeps [w.heap.size] w3 ((((w3.setCell ⟨w.heap.size, 0, none⟩ (.int .i64 k')).setCell ⟨w.heap.size, 1, none⟩ (.slice B' lb' cb')).setCell ⟨w.heap.size, 2, none⟩ (.string ⟨s'.toArray⟩)).setCell ⟨w.heap.size, 3, none⟩ (.string ⟨v'.toArray⟩)) := ((((Keeps.refl [w.heap.size] w3).setCell (.inl (by simp)) _).setCell (.inl (by simp)) _).setCell (.inl (by simp)) _).setCell (.inl (by simp)) _
      clear HR6' HR7' HR8'
      generalize (((w3.setCell ⟨w.heap.size, 0, none⟩ (.int .i64 k')).setCell ⟨w.heap.size, 1, none⟩ (.slice B' lb' cb')).setCell ⟨w.heap.size, 2, none⟩ (.string ⟨s'.toArray⟩)).setCell ⟨w.heap.size, 3, none⟩ (.string ⟨v'.toArray⟩) = W5 at *
      have hq5 := blk_keep HQ3.out hks (by simp)
      have hq6 : (W5.setCell ⟨w.heap.size + 1, 0, none⟩ (.int .i64 0)).heap[w.heap.size + 1]? = some (.cells #[.int .i64 0] 31 (0, 0)) := heap_setCell_same _ _ 0 _ _ _ hq5
      have hk6 : Keeps [w.heap.size + 1] W5 (W5.setCell ⟨w.heap.size + 1, 0, none⟩ (.int .i64 0)) := (Keeps.refl _ _).setCell (.inl (by simp)) _
      refine leaves_cons (f := 40) (args := #[.pointer (some ⟨w.heap.size + 1, 0, none⟩)]) (by simp) (by simp [go_sem]) ?_
      refine (fparse_idle (w.heap.size + 1) 0 _ (cell_of_blk hq6 0) (free_of_blk hq6 0)).mono ?_
      rintro e u' w'' ⟨rfl, rfl, rfl⟩
      have hk7 : Keeps [w.heap.size + 1] W5 ((W5.setCell ⟨w.heap.size + 1, 0, none⟩ (.int .i64 0)).setCell ⟨w.heap.size + 1, 0, none⟩ (.int .i64 0)) := hk6.setCell (.inl (by simp)) _
      have hkF : Keeps [w.heap.size, w.heap.size + 1] w3 ((W5.setCell ⟨w.heap.size + 1, 0, none⟩ (.int .i64 0)).setCell ⟨w.heap.size + 1, 0, none⟩ (.int .i64 0)) := (hks.mono (cs := [w.heap.size, w.heap.size + 1]) (by simp)).trans hk7 (fun y hy => .inl (by simp at hy; simp [hy]))
      have hzz := HZ1.out
      refine ⟨_, results_fil_no rfl _ _ w.heap.size (w.heap.size + 1) _ 0 (0, 0) rfl rfl rfl (blk_keep hrow hk7 (by simp)) (heap_setCell_same _ _ 0 _ _ _ hq6), .inl ⟨_, ⟨k', B', lb', cb', s', v'⟩, HE.out, rfl, HP.out _ _ (fun y hy => ?_) hkF⟩, (HK0.out.trans' HK3.out).trans hkF (fun y hy => .inr ?_)⟩
      · simp at hy; omega
      · simp at hy; omega
    · have HE : Hid (parseF T = none) := by show _ = _; unfold parseF; rw [HD.out]; dsimp only; rw [if_neg (by rw [hr]; simp)]
      have hk3 := HK1.out.trans' hk2
      have hc := cell_of_blk (HR1.out w3 hk3) 0
      have hz := free_of_blk (HR1.out w3 hk3) 0
      have HK3 := Lib.hid hk3
      clear hr hk2 hk3
      go_wp2_with fail
      refine leaves_cons (f := 40) (args := #[.pointer (some ⟨w.heap.size + 1, 0, none⟩)]) (by simp) (by simp [go_sem]) ?_
      refine (fparse_panicking (w.heap.size + 1) 0 180 [] w3 hc hz).mono ?_
      rintro e u' w'' ⟨rfl, rfl, rfl⟩
      exact FIN.out w3 HK3.out HE.out _ rfl rfl
end Go.Proofs.YtoggddoeanfjeaaGreatDoor
