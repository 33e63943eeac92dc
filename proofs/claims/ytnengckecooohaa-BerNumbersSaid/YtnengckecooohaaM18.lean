/- Texts of one proof, laid together: E44 E45 E46. -/
import Derived.Test.YtnengckecooohaaM17
import Derived.Laws.EntriesVeiled
import Derived.Defers
/- ber: the value of bytes. -/
namespace Go.Proofs.Ytnengckecooohaa
open Go.RowKit Go.Shelf
set_option linter.unusedVariables false
set_option linter.unusedSimpArgs false
set_option maxRecDepth 100000

theorem next_is : ∀ (f : Nat), f ≤ 16 → ∀ xs Bd r p w, NextP f xs Bd r p w → Calls Try.prog 58 #[.pointer (some ⟨r, 0, none⟩), .pointer (some ⟨p, 0, none⟩)] w (NextQ f xs Bd r w) := by
  intro f
  induction f with
  | zero => exact fun hf xs Bd r p w h => next_step 0 hf (fun f' h => by omega) xs Bd r p w h
  | succ f ih => exact fun hf xs Bd r p w h => next_step (f + 1) hf (fun f' he => by
      obtain rfl : f' = f := by omega
      exact ih (by omega)) xs Bd r p w h

theorem next_nil (r p c : Nat) (A : Option Addr) (w : World) (h : w.cell? ⟨r, 0, none⟩ = some (.slice A 0 c)) : Calls Try.prog 58 #[.pointer (some ⟨r, 0, none⟩), .pointer (some ⟨p, 0, none⟩)] w fun e w' => e = gaveUp 151 ∧ Keeps [] w w' := by
  obtain ⟨W0, hW0⟩ : ∃ W0, w.alloc ber0 = W0 := ⟨_, rfl⟩
  have hk0 : Keeps [] w W0 := by rw [← hW0]; exact (Keeps.refl [] w).alloc _
  have HK0 := Lib.hid hk0
  have HT := Lib.hid (tag_none r A c W0 ((hk0.cell (lt_of_cell h) (by simp)).trans h))
  clear hk0 h
  go_enter Try.func58, Try.ntmps58
  go_wp2_with fail
  refine HT.out.mono ?_
  rintro e w1 ⟨rfl, hk1⟩
  have HK1 := Lib.hid (HK0.out.trans' hk1)
  clear hk1
  go_wp2_with fail
  exact ⟨rfl, rfl, HK1.out⟩

/-- How valueOf ends. -/
def ValQ (xs : List UInt8) (w : World) (e : Ending) (w' : World) : Prop :=
  ((∃ t h, valD xs = .inr t ∧ e = .returned (BH.val h) ∧ (∀ (E : List Nat) X, (∀ x ∈ E, x < w.heap.size) → Keeps E w' X → BerAt X t h)) ∨ ∃ no, valD xs = .inl no ∧ e = gaveUp no) ∧ Keeps [] w w'

set_option maxHeartbeats 1000000 in
theorem valueof_is (A : Option Addr) (n c : Nat) (xs : List UInt8) (w : World) (hn : xs.length = n) (hm : n ≤ 65536) (hb : BytesAt w (.slice A n c) xs) : Calls Try.prog 41 #[.slice A n c] w (ValQ xs w) := by
  have hmf : ∀ (fn : Fn) (first cap : Array Value) (w : World), (Instr.makeFunc fn first cap).run Try.prog w = .ok (.func fn first cap) w := fun _ _ _ _ => rfl
  obtain ⟨W0, hW0⟩ : ∃ W0, w.alloc ber0 = W0 := ⟨_, rfl⟩
  have hk0 : Keeps [] w W0 := by rw [← hW0]; exact (Keeps.refl [] w).alloc _
  have hz0 : W0.heap.size = w.heap.size + 1 := by rw [← hW0]; simp
  have hr0 : W0.heap[w.heap.size]? = some ber0 := by rw [← hW0]; exact heap_new8 w _
  obtain ⟨W1, hW1⟩ : ∃ W1, W0.alloc (.cells #[.func (.func 58) #[] #[.pointer (some ⟨W0.heap.size, 0, none⟩)]] 79) = W1 := ⟨_, rfl⟩
  have hk1 : Keeps [] W0 W1 := by rw [← hW1]; exact (Keeps.refl [] W0).alloc _
  have hz1 : W1.heap.size = w.heap.size + 2 := by rw [← hW1]; simp [hz0]
  have hr1 : W1.heap[W0.heap.size]? = some (.cells #[.func (.func 58) #[] #[.pointer (some ⟨W0.heap.size, 0, none⟩)]] 79 (0, 0)) := by rw [← hW1]; exact heap_new8 W0 _
  obtain ⟨W2, hW2⟩ : ∃ W2, W1.alloc (.cells #[.slice A n c, .int .i64 1] 84) = W2 := ⟨_, rfl⟩
  have hk2 : Keeps [] W1 W2 := by rw [← hW2]; exact (Keeps.refl [] W1).alloc _
  have hr2 : W2.heap[W1.heap.size]? = some (.cells #[.slice A n c, .int .i64 1] 84 (0, 0)) := by rw [← hW2]; exact heap_new8 W1 _
  have hfc : W2.cell? ⟨W0.heap.size, 0, none⟩ = some (.func (.func 58) #[] #[.pointer (some ⟨W0.heap.size, 0, none⟩)]) := cell_of_blk (blk_keep hr1 hk2 (by simp)) 0
  have HK := Lib.hid (hk0.trans' (hk1.trans' hk2))
  have HRES := Lib.hid (blk_keep hr0 (hk1.trans' hk2) (by simp))
  have HRD : Hid (W2.heap[W0.heap.size + 1]? = some (.cells #[.slice A n c, .int .i64 1] 84 (0, 0))) := by
    have h9 : W0.heap.size + 1 = W1.heap.size := by omega
    rw [h9]
    exact hr2
  have HZ := Lib.hid (show w.heap.size < W0.heap.size ∧ W0.heap.size + 1 < W2.heap.size by have := lt_of_heap hr2; omega)
  have HN := Lib.hid hn
  have HW1 := Lib.hid hW1
  have HW2 := Lib.hid hW2
  have HB := Lib.hid hb
  have HFC := Lib.hid hfc
  have HM := Lib.hid hm
  clear hk1 hk2 hr0 hr1 hr2 hz0 hz1 hn hW1 hW2 hb hfc hk0 hm
  go_enter Try.func41, Try.ntmps41
  go_wp2_with fail
  rw [HW1.out, HW2.out]
  rcases xs with _ | ⟨x, xs⟩
  · have hn0 : n = 0 := HN.out.symm
    subst hn0
    refine (next_nil (W0.heap.size + 1) W0.heap.size c A W2 (cell_of_blk HRD.out 0)).mono ?_
    rintro e w6 ⟨rfl, hk6⟩
    have HK6 := Lib.hid (HK.out.trans' hk6)
    clear hk6
    go_wp2_with fail
    exact ⟨rfl, .inr ⟨151, rfl, rfl⟩, HK6.out⟩
  · have hAl : ∀ a, A = some a → a.block < w.heap.size := fun a ha => HB.out.lt (by simp) a.block (by rw [ha]; rfl)
    have hrb : RB W2 (W0.heap.size + 1) (x :: xs) w.heap.size := by
      have hz := HZ.out
      refine ⟨A, c, ⟨?_, free_of_blk HRD.out 0, rfl, ?_, fun a ha => ?_⟩, hAl⟩
      · rw [HN.out]; exact cell_of_blk HRD.out 0
      · rw [HN.out]; exact HB.out.grow HK.out
      · have := hAl a ha; omega
    refine (next_is 16 (Nat.le_refl _) (x :: xs) w.heap.size (W0.heap.size + 1) W0.heap.size W2 ⟨by rw [HN.out]; exact HM.out, hrb, HK.out.size, cell_of_blk HRD.out 1, HFC.out, by omega⟩).mono ?_
    clear hrb hAl
    rintro e w6 ⟨⟨t, rest, h, hD, rfl, hp, hrb⟩ | ⟨no, hD, rfl⟩, hk6⟩
    · have hz := HZ.out
      have hrs6 := blk_keep HRES.out hk6.keeps (by simp; omega)
      obtain ⟨C, rc, hC1, hC2⟩ := hrb
      have i0 := hC1.cell
      have hkw : Keeps [] w w6 := HK.out.trans hk6.keeps (fun y hy => .inr (by rw [List.mem_singleton.1 hy]; omega))
      obtain ⟨c', n', k', A', la', ca', B', lb', cb'⟩ := h
      obtain ⟨W7, hW7⟩ : ∃ W7, w6.alloc (.cells #[.int .u8 (c' : Int), .int .u8 (n' : Int), .bool k', .slice A' la' ca', .slice B' lb' cb'] 25) = W7 := ⟨_, rfl⟩
      have hk7 : Keeps [] w6 W7 := by rw [← hW7]; exact (Keeps.refl [] w6).alloc _
      have hr7 : W7.heap[w6.heap.size]? = some (.cells #[.int .u8 (c' : Int), .int .u8 (n' : Int), .bool k', .slice A' la' ca', .slice B' lb' cb'] 25 (0, 0)) := by rw [← hW7]; exact heap_new8 w6 _
      have hrs7 := blk_keep hrs6 hk7 (by simp)
      have i7 := (hk7.cell (lt_of_cell i0) (by simp)).trans i0
      obtain ⟨⟨a0, a1, a2, a3, a4⟩, _⟩ := five_facts hr7
      obtain ⟨⟨c0, c1, c2, c3, c4⟩, ⟨d0, d1, d2, d3, d4⟩⟩ := five_facts hrs7
      have HRS7 := Lib.hid hrs7
      have HK7 := Lib.hid hk7
      have HKW7 := Lib.hid (hkw.trans' hk7)
      have HP := Lib.hid hp
      have HD := Lib.hid hD
      have HZ2 := Lib.hid (show w.heap.size < W2.heap.size by omega)
      unfold BH.val
      clear hz hrs6 hC1 hC2 i0 hkw hk7 hr7 hrs7 hp hD hk6
      rcases Nat.eq_zero_or_pos rest.length with h0 | h0
      · have H0 := Lib.hid h0
        rw [h0] at i7
        clear h0
        go_wp2_with fail
        have hrow := five_set (v0 := .int .u8 (c' : Int)) (v1 := .int .u8 (n' : Int)) (v2 := .bool k') (v3 := .slice A' la' ca') (v4 := .slice B' lb' cb') HRS7.out
        have hkf := five_keep (v0 := .int .u8 (c' : Int)) (v1 := .int .u8 (n' : Int)) (v2 := .bool k') (v3 := .slice A' la' ca') (v4 := .slice B' lb' cb') HKW7.out (g := w.heap.size) (.inr (Nat.le_refl _))
        have hks := five_keep (bs := [w.heap.size]) (v0 := .int .u8 (c' : Int)) (v1 := .int .u8 (n' : Int)) (v2 := .bool k') (v3 := .slice A' la' ca') (v4 := .slice B' lb' cb') (HK7.out.mono (cs := [w.heap.size]) (by simp)) (g := w.heap.size) (.inl (by simp))
        refine ret_ber rfl rfl rfl hrow rfl ⟨.inl ⟨t, ⟨c', n', k', A', la', ca', B', lb', cb'⟩, ?_, rfl, fun E X hE hX => ?_⟩, hkf⟩
        · unfold valD
          rw [HD.out]
          simp [H0.out]
        · have hkX : Keeps (w.heap.size :: E) w6 X := (hks.mono (by simp)).trans hX (fun y hy => .inl (List.mem_cons_of_mem _ hy))
          refine HP.out _ X (fun y hy => ?_) hkX
          have := HZ2.out
          rcases List.mem_cons.1 hy with hy | hy
          · omega
          · have := hE y hy; omega
      · have hi0 : (0 : Int) < (rest.length : Int) := by omega
        have HE : Hid (valD (x :: xs) = .inl 151) := by
          show _ = _
          unfold valD
          rw [HD.out]
          simp
          exact List.length_pos_iff.1 h0
        generalize hrl : rest.length = rl at *
        clear hrl
        go_wp2_with fail
        exact ⟨rfl, .inr ⟨151, HE.out, rfl⟩, HKW7.out⟩
    · have HE : Hid (valD (x :: xs) = .inl no) := by
        show _ = _
        unfold valD
        rw [hD]
      have HK6 : Hid (Keeps [] w w6) := HK.out.trans hk6.keeps (fun y hy => .inr (by rw [List.mem_singleton.1 hy]; have := HZ.out; omega))
      clear hD hk6
      go_wp2_with fail
      exact ⟨rfl, .inr ⟨no, HE.out, rfl⟩, HK6.out⟩

end Go.Proofs.Ytnengckecooohaa
/- ber: Decode. -/
namespace Go.Proofs.Ytnengckecooohaa
open Go.RowKit Go.Shelf
set_option linter.unusedVariables false
set_option linter.unusedSimpArgs false
set_option maxRecDepth 100000

/-- How Decode ends. -/
def DecQ (xs : List UInt8) (w : World) (e : Ending) (w' : World) : Prop :=
  ((∃ t h, decD xs = .inr t ∧ e = .returned (.tuple #[BH.val h, .int .i64 0]) ∧ BerAt w' t h) ∨ ∃ no, decD xs = .inl no ∧ e = .returned (.tuple #[.agg #[.int .u8 0, .int .u8 0, .bool false, .slice none 0 0, .slice none 0 0], .int .i64 no])) ∧ Keeps [] w w'

theorem results_ber_no {fn : Func} {p q : Tmp} (h : fn.results = #[.cell p 25, .cell q 28]) (tmps : Array Value) (w : World) (g k : Nat) (cs : Array Value) (x : Int) (fr : Nat × Nat)
    (hp : tmps.getD p undef = .pointer (some ⟨g, 0, none⟩)) (hq : tmps.getD q undef = .pointer (some ⟨k, 0, none⟩)) (hs : cs.size = 5) (hg : w.heap[g]? = some (.cells cs 25 fr)) (hk : w.heap[k]? = some (.cells #[.int .i64 x] 28 (0, 0))) :
    (results fn tmps).run Try.prog w = .ok (.tuple #[.agg cs, .int .i64 x]) w := by
  have hp' : tmps[p]?.getD undef = .pointer (some ⟨g, 0, none⟩) := by simpa using hp
  have hq' : tmps[q]?.getD undef = .pointer (some ⟨k, 0, none⟩) := by simpa using hq
  have hl := run_loadVar_row (P := Try.prog) w g 25 25 cs fr _ hg Try.underlying25 rfl (by rw [hs]; kernel_rfl)
  have hl2 : (loadVar 28 ⟨k, 0, none⟩).run Try.prog w = .ok (.int .i64 x) w := by
    have hc := cell_of_blk hk 0
    simp only [List.getElem?_toArray, List.getElem?_cons_zero] at hc
    simp [go_sem, hc]
  simp [results, h, hp', hq', asAddr, hl, hl2, Sem.run_bind, Result.andThen]

set_option maxHeartbeats 1000000 in
theorem decode_is (A : Option Addr) (n c : Nat) (xs : List UInt8) (w : World) (hn : xs.length = n) (hb : BytesAt w (.slice A n c) xs) (h63 : n ≤ 9223372036854775807) : Calls Try.prog 15 #[.slice A n c] w (DecQ xs w) := by
  have hmf : ∀ (fn : Fn) (first cap : Array Value) (w : World), (Instr.makeFunc fn first cap).run Try.prog w = .ok (.func fn first cap) w := fun _ _ _ _ => rfl
  obtain ⟨W0, hW0⟩ : ∃ W0, (w.alloc ber0).alloc (.cells #[.int .i64 0] 28) = W0 := ⟨_, rfl⟩
  have hk0 : Keeps [] w W0 := by rw [← hW0]; exact ((Keeps.refl [] w).alloc _).alloc _
  have hr0 : W0.heap[w.heap.size]? = some ber0 := by rw [← hW0]; exact (Below.heap_alloc _ _ _ (by simp)).trans (heap_new8 w _)
  have hr1 : W0.heap[w.heap.size + 1]? = some (.cells #[.int .i64 0] 28 (0, 0)) := by
    rw [← hW0]
    have h9 := heap_new8 (w.alloc ber0) (.cells #[.int .i64 0] 28)
    rwa [World.size_alloc] at h9
  have hz0 : W0.heap.size = w.heap.size + 2 := by rw [← hW0]; simp
  have HR0 := Lib.hid (fun X (hk : Keeps [] W0 X) => blk_keep hr0 hk (by simp))
  have HR1 := Lib.hid (fun X (hk : Keeps [] W0 X) => blk_keep hr1 hk (by simp))
  have HK0 := Lib.hid hk0
  have HZ0 := Lib.hid hz0
  have HN := Lib.hid hn
  have HB := Lib.hid (hb.grow hk0)
  clear hk0 hr0 hr1 hz0 hn hb
  have fin : ∀ (w3 : World) (no : Int), Keeps [] W0 w3 → decD xs = .inl no → ∀ fn : Array Value, fn.getD 2 undef = .pointer (some ⟨w.heap.size, 0, none⟩) → fn.getD 3 undef = .pointer (some ⟨w.heap.size + 1, 0, none⟩) →
      ∃ v, (results Try.f15 fn).run Try.prog (w3.setCell ⟨w.heap.size + 1, 0, none⟩ (.int .i64 no)) = .ok v (w3.setCell ⟨w.heap.size + 1, 0, none⟩ (.int .i64 no)) ∧ DecQ xs w (.returned v) (w3.setCell ⟨w.heap.size + 1, 0, none⟩ (.int .i64 no)) := by
    intro w3 no hk hd fn h2 h3
    have hks : Keeps [w.heap.size + 1] w3 (w3.setCell ⟨w.heap.size + 1, 0, none⟩ (.int .i64 no)) := (Keeps.refl _ _).setCell (.inl (by simp)) _
    refine ⟨_, results_ber_no rfl fn _ w.heap.size (w.heap.size + 1) _ no (0, 0) h2 h3 rfl (blk_keep (HR0.out w3 hk) hks (by simp)) (heap_setCell_same _ _ 0 _ _ _ (HR1.out w3 hk)), .inr ⟨no, hd, rfl⟩, ?_⟩
    exact (HK0.out.trans' hk).setCell (.inr (Nat.le_succ _)) _
  have FIN := Lib.hid fin
  clear fin
  rcases Nat.lt_or_ge 65536 n with hbig | hsm
  · have hbi : (65536 : Int) < (n : Int) := by omega
    have HMF := Lib.hid (mustfit_is (n : Int) W0)
    have HE : Hid (decD xs = .inl 3) := by
      show _ = _
      unfold decD
      rw [if_pos (by rw [HN.out]; exact hbig)]
    have hc := cell_of_blk (HR1.out W0 (Keeps.refl _ _)) 0
    have hz := free_of_blk (HR1.out W0 (Keeps.refl _ _)) 0
    clear hbig
    go_enter_defers Try.func15, Try.ntmps15
    go_wp2_with fail
    refine HMF.out.mono ?_
    rintro e w1 ⟨⟨h1, rfl⟩ | ⟨h1, rfl⟩, rfl⟩
    · omega
    · clear h1
      go_wp2_with fail
      refine leaves_cons (f := 39) (args := #[.pointer (some ⟨w.heap.size + 1, 0, none⟩)]) (by simp) (by simp [go_sem]) ?_
      refine (decode_panicking (w.heap.size + 1) 0 3 [] W0 hc hz).mono ?_
      rintro e u' w'' ⟨rfl, rfl, rfl⟩
      exact FIN.out W0 3 (Keeps.refl _ _) HE.out _ rfl rfl
  · have hbi : ¬ (65536 : Int) < (n : Int) := by omega
    have HMF := Lib.hid (mustfit_is (n : Int) W0)
    have HV := Lib.hid (valueof_is A n c xs W0 HN.out hsm HB.out)
    have HDV : Hid (decD xs = valD xs) := by
      show _ = _
      unfold decD
      rw [if_neg (by rw [HN.out]; omega)]
    go_enter_defers Try.func15, Try.ntmps15
    go_wp2_with fail
    refine HMF.out.mono ?_
    rintro e w1 ⟨⟨h1, rfl⟩ | ⟨h1, rfl⟩, rfl⟩
    · clear h1
      go_wp2_with fail
      refine HV.out.mono ?_
      rintro e w3 ⟨⟨t, h, hd, rfl, hp⟩ | ⟨no, hd, rfl⟩, hk3⟩
      · have hr3 := HR0.out w3 hk3
        have hq3 := HR1.out w3 hk3
        obtain ⟨⟨c0, c1, c2, c3, c4⟩, ⟨f0, f1, f2, f3, f4⟩⟩ := five_facts hr3
        have hc := cell_of_blk hq3 0
        have hz := free_of_blk hq3 0
        simp only [List.getElem?_toArray, List.getElem?_cons_zero] at hc
        obtain ⟨c', n', k', A', la', ca', B', lb', cb'⟩ := h
        unfold BH.val
        have HR3 := Lib.hid hr3
        have HQ3 := Lib.hid hq3
        have HK3 := Lib.hid hk3
        have HP := Lib.hid hp
        have HD := Lib.hid hd
        clear hr3 hq3 hk3 hp hd
        go_wp2_with fail
        have hrow := five_set (v0 := .int .u8 (c' : Int)) (v1 := .int .u8 (n' : Int)) (v2 := .bool k') (v3 := .slice A' la' ca') (v4 := .slice B' lb' cb') HR3.out
        have hks := five_keep (bs := [w.heap.size]) (v0 := .int .u8 (c' : Int)) (v1 := .int .u8 (n' : Int)) (v2 := .bool k') (v3 := .slice A' la' ca') (v4 := .slice B' lb' cb') (Keeps.refl [w.heap.size] w3) (g := w.heap.size) (.inl (by simp))
        generalize ((((w3.setCell ⟨w.heap.size, 0, none⟩ (.int .u8 (c' : Int))).setCell ⟨w.heap.size, 1, none⟩ (.int .u8 (n' : Int))).setCell ⟨w.heap.size, 2, none⟩ (.bool k')).setCell ⟨w.heap.size, 3, none⟩ (.slice A' la' ca')).setCell ⟨w.heap.size, 4, none⟩ (.slice B' lb' cb') = W5 at *
        have hq5 := blk_keep HQ3.out hks (by simp)
        have hq6 : (W5.setCell ⟨w.heap.size + 1, 0, none⟩ (.int .i64 0)).heap[w.heap.size + 1]? = some (.cells #[.int .i64 0] 28 (0, 0)) := heap_setCell_same _ _ 0 _ _ _ hq5
        have hk6 : Keeps [w.heap.size + 1] W5 (W5.setCell ⟨w.heap.size + 1, 0, none⟩ (.int .i64 0)) := (Keeps.refl _ _).setCell (.inl (by simp)) _
        have hr6 := blk_keep hrow hk6 (by simp)
        refine leaves_cons (f := 39) (args := #[.pointer (some ⟨w.heap.size + 1, 0, none⟩)]) (by simp) (by simp [go_sem]) ?_
        refine (decode_idle (w.heap.size + 1) 0 _ (cell_of_blk hq6 0) (free_of_blk hq6 0)).mono ?_
        rintro e u' w'' ⟨rfl, rfl, rfl⟩
        have hk7 : Keeps [w.heap.size + 1] W5 ((W5.setCell ⟨w.heap.size + 1, 0, none⟩ (.int .i64 0)).setCell ⟨w.heap.size + 1, 0, none⟩ (.int .i64 0)) := hk6.setCell (.inl (by simp)) _
        have hkF : Keeps [w.heap.size, w.heap.size + 1] w3 ((W5.setCell ⟨w.heap.size + 1, 0, none⟩ (.int .i64 0)).setCell ⟨w.heap.size + 1, 0, none⟩ (.int .i64 0)) := (hks.mono (cs := [w.heap.size, w.heap.size + 1]) (by simp)).trans hk7 (fun y hy => .inl (by simp at hy; simp [hy]))
        have hzz := HZ0.out
        refine ⟨_, results_ber_no rfl _ _ w.heap.size (w.heap.size + 1) _ 0 (0, 0) rfl rfl rfl (blk_keep hrow hk7 (by simp)) (heap_setCell_same _ _ 0 _ _ _ hq6), .inl ⟨t, ⟨c', n', k', A', la', ca', B', lb', cb'⟩, HDV.out.trans HD.out, rfl, HP.out _ _ (fun y hy => ?_) hkF⟩, (HK0.out.trans' HK3.out).trans hkF (fun y hy => .inr ?_)⟩
        · simp at hy; omega
        · simp at hy; omega
      · have HE : Hid (decD xs = .inl no) := HDV.out.trans hd
        have hc := cell_of_blk (HR1.out w3 hk3) 0
        have hz := free_of_blk (HR1.out w3 hk3) 0
        have HK3 := Lib.hid hk3
        clear hd hk3
        go_wp2_with fail
        refine leaves_cons (f := 39) (args := #[.pointer (some ⟨w.heap.size + 1, 0, none⟩)]) (by simp) (by simp [go_sem]) ?_
        refine (decode_panicking (w.heap.size + 1) 0 no [] w3 hc hz).mono ?_
        rintro e u' w'' ⟨rfl, rfl, rfl⟩
        exact FIN.out w3 no HK3.out HE.out _ rfl rfl
    · omega

end Go.Proofs.Ytnengckecooohaa
/- ber: what is known: a list of a number and a text; the numbers of it. -/
namespace Go.Proofs.Ytnengckecooohaa
open Go.RowKit Go.Shelf
set_option linter.unusedVariables false
set_option linter.unusedSimpArgs false
set_option maxRecDepth 100000

theorem few5 : fewB 5 = [5] := by decide
theorem few129 : fewB (-129) = [255, 127] := by decide
/-- The value that is known. -/
def kn5 : BV := .mk 0 16 true [] [.mk 0 2 false [5] [], .mk 0 4 false [97, 98] []]
theorem kn5_enc : encB kn5 = .inr [48, 7, 2, 1, 5, 4, 2, 97, 98] := by rfl
theorem kn5_dec : decD [48, 7, 2, 1, 5, 4, 2, 97, 98] = .inr kn5 := by rfl

theorem is129 : isFew [255, 127] = true := by kernel_rfl
theorem sg129 : sgnB [255, 127] = -129 := by kernel_rfl
theorem int129 : intR false [255, 127] = .tuple #[.int .i64 (-129), .bool true] := by
  unfold intR
  rw [is129, sg129]
  rfl
/-- How a truth comes back. -/
def YesQ (w : World) (e : Ending) (w' : World) : Prop := e = .returned (.bool true) ∧ Keeps [] w w'

set_option maxHeartbeats 1000000 in
theorem known5_any (w : World) : Calls Try.prog 11 #[] w (YesQ w) := by
  have HI : Hid (∀ X, Calls Try.prog 20 #[.int .i64 5] X fun e w' => ∃ A c, e = .returned (.agg #[.int .u8 0, .int .u8 2, .bool false, .slice A 1 c, .slice none 0 0]) ∧ BytesAt w' (.slice A 1 c) [5] ∧ Keeps [] X w') := fun X => by
    have h9 := int_is 5 X (by decide)
    rw [few5] at h9
    exact h9
  have HJ : Hid (∀ X, Calls Try.prog 20 #[.int .i64 (-129)] X fun e w' => ∃ A c, e = .returned (.agg #[.int .u8 0, .int .u8 2, .bool false, .slice A 2 c, .slice none 0 0]) ∧ BytesAt w' (.slice A 2 c) [255, 127] ∧ Keeps [] X w') := fun X => by
    have h9 := int_is (-129) X (by decide)
    rw [few129] at h9
    exact h9
  have HT := Lib.hid (fun X => text_is [97, 98] X (by simp))
  go_enter Try.func11, Try.ntmps11
  go_wp2_with fail
  refine (HI.out _).mono ?_
  rintro e w1 ⟨A1, c1, rfl, hb1, hk1⟩
  have HB1 := Lib.hid hb1
  have HK1 := Lib.hid hk1
  clear hb1 hk1 HI
  go_wp2_with fail
  refine (HT.out _).mono ?_
  rintro e w2 ⟨A2, c2, rfl, hb2, hk2⟩
  have HB2 := Lib.hid hb2
  have HB12 := Lib.hid (HB1.out.grow hk2)
  have HK2 := Lib.hid (HK1.out.trans' hk2)
  clear hb2 hk2 HT HB1
  obtain ⟨W3, hW3⟩ : ∃ W3, w2.alloc (.cells #[.int .u8 0, .int .u8 2, .bool false, .slice A1 1 c1, .slice none 0 0, .int .u8 0, .int .u8 4, .bool false, .slice A2 2 c2, .slice none 0 0] 25) = W3 := ⟨_, rfl⟩
  have hk3 : Keeps [] w2 W3 := by rw [← hW3]; exact (Keeps.refl [] w2).alloc _
  have hr3 : W3.heap[w2.heap.size]? = some (.cells #[.int .u8 0, .int .u8 2, .bool false, .slice A1 1 c1, .slice none 0 0, .int .u8 0, .int .u8 4, .bool false, .slice A2 2 c2, .slice none 0 0] 25 (0, 0)) := by rw [← hW3]; exact heap_new8 w2 _
  have hits : ItemsAt W3 (some ⟨w2.heap.size, 0, none⟩) 0 [.mk 0 2 false [5] [], .mk 0 4 false [97, 98] []] := by
    refine ⟨⟨_, _, ⟨0, 2, false, A1, 1, c1, none, 0, 0⟩, rfl, fun j u hu => ?_, BerAt.flat (by decide) (by decide) rfl (HB12.out.grow hk3)⟩, ⟨_, _, ⟨0, 4, false, A2, 2, c2, none, 0, 0⟩, rfl, fun j u hu => ?_, BerAt.flat (by decide) (by decide) rfl (HB2.out.grow hk3)⟩, trivial⟩
    · rw [cell_of_blk hr3]
      match j, hu with
      | 0, hu => exact hu
      | 1, hu => exact hu
      | 2, hu => exact hu
      | 3, hu => exact hu
      | 4, hu => exact hu
    · rw [cell_of_blk hr3]
      match j, hu with
      | 0, hu => exact hu
      | 1, hu => exact hu
      | 2, hu => exact hu
      | 3, hu => exact hu
      | 4, hu => exact hu
  have HLS := Lib.hid (list_is (some ⟨w2.heap.size, 0, none⟩) 2 2 _ W3 rfl hits (by simp [nodesL, nodesB]) (by simp [maxL, maxB]))
  have HK3 := Lib.hid (HK2.out.trans' hk3)
  clear hk3 hr3 hits
  go_wp2_with fail
  refine HLS.out.mono ?_
  rintro e w4 ⟨C, d, rfl, hp, hk4⟩
  have HBE := Lib.hid (hp [] w4 (by simp) (Keeps.refl _ _))
  have HK4 := Lib.hid (HK3.out.trans' hk4)
  have HEN := Lib.hid (encode_is kn5 _ w4 HBE.out (by simp [kn5, nodesL, nodesB]) (by simp [kn5, maxL, maxB]))
  clear hp hk4 HLS
  go_wp2_with fail
  refine HEN.out.mono ?_
  rintro e w5 ⟨⟨xs, B, bd, he, rfl, hb5⟩ | ⟨no, he, rfl⟩, hk5⟩
  · rw [kn5_enc] at he
    injection he with he
    subst he
    have HB5 := Lib.hid hb5
    have HK5 := Lib.hid (HK4.out.trans' hk5)
    have HDE := Lib.hid (decode_is B 9 bd [48, 7, 2, 1, 5, 4, 2, 97, 98] w5 rfl hb5 (by decide))
    clear hb5 hk5 HEN
    go_wp2_with fail
    refine HDE.out.mono ?_
    rintro e w6 ⟨⟨t, h, hd, rfl, ht⟩ | ⟨no, hd, rfl⟩, hk6⟩
    · rw [kn5_dec] at hd
      injection hd with hd
      subst hd
      have HB6 := Lib.hid (HB5.out.grow hk6)
      have HK6 := Lib.hid (HK5.out.trans' hk6)
      have hl2 : h.lb = 2 := by
        obtain ⟨_, _, _, _, _, _, _, h8, _⟩ := ht
        exact h8.symm
      obtain ⟨c', n', k', A', la', ca', B', lb', cb'⟩ := h
      have hl3 : lb' = 2 := hl2
      subst hl3
      clear ht hk6 HDE hl2
      unfold BH.val
      obtain ⟨W7, hW7⟩ : ∃ W7, w6.alloc (.cells #[.int .u8 (c' : Int), .int .u8 (n' : Int), .bool k', .slice A' la' ca', .slice B' 2 cb'] 25) = W7 := ⟨_, rfl⟩
      have hk7 : Keeps [] w6 W7 := by rw [← hW7]; exact (Keeps.refl [] w6).alloc _
      have hr7 : W7.heap[w6.heap.size]? = some (.cells #[.int .u8 (c' : Int), .int .u8 (n' : Int), .bool k', .slice A' la' ca', .slice B' 2 cb'] 25 (0, 0)) := by rw [← hW7]; exact heap_new8 w6 _
      have HR7 := Lib.hid hr7
      have HB7 := Lib.hid (HB6.out.grow hk7)
      have HK7 := Lib.hid (HK6.out.trans' hk7)
      clear hr7 hk7
      go_wp2_with fail
      refine (HJ.out _).mono ?_
      rintro e w8 ⟨A3, c3, rfl, hb8, hk8⟩
      have hio := intof_is 0 2 false A3 none 2 c3 0 0 [255, 127] w8 rfl hb8
      rw [int129] at hio
      have HIO := Lib.hid hio
      have HR8 := Lib.hid (blk_keep HR7.out hk8 (by simp))
      have HB8 := Lib.hid (HB7.out.grow hk8)
      have HK8 := Lib.hid (HK7.out.trans' hk8)
      clear hio hk8 hb8
      go_wp2_with fail
      refine HIO.out.mono ?_
      rintro e w9 ⟨rfl, hk9⟩
      obtain ⟨⟨a0, a1, a2, a3, a4⟩, _⟩ := five_facts (blk_keep HR8.out hk9 (by simp))
      have hcv : (convert 22 9 (.slice B 9 bd)).run Try.prog w9 = .ok (.string ⟨#[48, 7, 2, 1, 5, 4, 2, 97, 98]⟩) w9 := conv_bytes (HB8.out.grow hk9)
      have HK9 := Lib.hid (HK8.out.trans' hk9)
      clear hk9
      go_wp2_with fail
      go_ret
      exact ⟨rfl, HK9.out⟩
    · rw [kn5_dec] at hd; cases hd
  · rw [kn5_enc] at he; cases he

end Go.Proofs.Ytnengckecooohaa
