import Derived.Test.YtbfebljahjmjfaaGreatDoorQ14
import Derived.BigQuiet
import Derived.Lib.AppendStr
/- filter: Means; walked. -/
namespace Go.Proofs.YtbfebljahjmjfaaGreatDoor
open Go.RowKit Go.Shelf
set_option linter.unusedVariables false
set_option linter.unusedSimpArgs false
set_option maxRecDepth 100000

/-- What Means answers. -/
def meansP (own beside : List Att) (t : FV) : Bool × Nat := if rightF t = true ∧ standsP own beside = true then (meanF own beside (lowF t), 0) else (false, 2)
def MnsQ (own beside : List Att) (t : FV) (w : World) (e : Ending) (w' : World) : Prop := e = .returned (.tuple #[.bool (meansP own beside t).1, .int .i64 ((meansP own beside t).2 : Int)]) ∧ Keeps [] w w'
theorem rightF_low (t : FV) : rightF (lowF t) = rightF t := by unfold rightF; rw [thruF_low]
set_option maxHeartbeats 8000000 in
theorem means8_is (S : SubV) (lo lb' : List At7) (t : FV) (h : FH) (w : World) (hS : SubOk w S lo lb') (ht : FilAt w t h) :
  Calls Tryz.prog 26 #[h.val, .slice S.A S.n S.c, .slice S.B S.m S.d] w (MnsQ (ents lo) (ents lb') t w) := by
 have hmf : ∀ (fn : Fn) (first cap : Array Value) (w : World), (Instr.makeFunc fn first cap).run Tryz.prog w = .ok (.func fn first cap) w := fun _ _ _ _ => rfl
 have HSO := Lib.hid (fun X (hX : Keeps [] w X) => sound_is 2 t h X (FilAt.grow hX t h ht))
 have HST := Lib.hid (fun X (hX : Keeps [] w X) => stands8_is S lo lb' X (hS.grow hX))
 have HIM := Lib.hid (fun X (hX : Keeps [] w X) (h' : FH) (ha : FilAt X (lowF t) h') (hr : rightF t = true) => ismeant_is S lo lb' (lowF t) h' X (hS.grow hX) ha (by rw [rightF_low]; exact hr))
 have HMY := Lib.hid (must8_yes 2)
 have HMN := Lib.hid (must8_no 2)
 obtain ⟨P, hP⟩ : ∃ P, standsP (ents lo) (ents lb') = P := ⟨_, rfl⟩
 rw [hP] at HST
 have HP := Lib.hid hP
 obtain ⟨k, B, lb, cb, s, v⟩ := h
 obtain ⟨A, n, c, Bb, m, d⟩ := S
 unfold SubV.val FH.val tv at *
 dsimp only at *
 clear ht hS hP
 have b1 := heap_new8 w (.cells #[.int .i64 k, .slice B lb cb, .string ⟨s.toArray⟩, .string ⟨v.toArray⟩] 26)
 have k1 : Keeps [] w (w.alloc (.cells #[.int .i64 k, .slice B lb cb, .string ⟨s.toArray⟩, .string ⟨v.toArray⟩] 26)) := (Keeps.refl [] w).alloc _
 have k2 : Keeps [] (w.alloc (.cells #[.int .i64 k, .slice B lb cb, .string ⟨s.toArray⟩, .string ⟨v.toArray⟩] 26)) ((w.alloc (.cells #[.int .i64 k, .slice B lb cb, .string ⟨s.toArray⟩, .string ⟨v.toArray⟩] 26)).alloc (.cells #[.int .i64 0] 27)) := (Keeps.refl [] _).alloc _
 have b2 := heap_new8 (w.alloc (.cells #[.int .i64 k, .slice B lb cb, .string ⟨s.toArray⟩, .string ⟨v.toArray⟩] 26)) (.cells #[.int .i64 0] 27)
 have HBF := Lib.hid (blk_keep b1 k2 (by simp))
 have HBN := Lib.hid b2
 have HKB := Lib.hid (k1.trans' k2)
 have HZ : Hid (((w.alloc (.cells #[.int .i64 k, .slice B lb cb, .string ⟨s.toArray⟩, .string ⟨v.toArray⟩] 26)).alloc (.cells #[.int .i64 0] 27)).heap.size = w.heap.size + 2) := by show _ = _; simp
 simp only [World.size_alloc] at HBN
 clear k1 k2 b1 b2
 have HEND : Hid (∀ X v, Keeps [] w X → Keeps [] w (X.setCell ⟨w.heap.size + 1, 0, none⟩ v)) := fun X v hk => hk.setCell (.inr (Nat.le_succ _)) _
 obtain ⟨⟨z0, z1, z2, z3⟩, _⟩ := four_facts8 HBF.out
 go_enter_defers Tryz.func26, Tryz.ntmps26
 go_wp2_with fail
 generalize (w.alloc (.cells #[.int .i64 k, .slice B lb cb, .string ⟨s.toArray⟩, .string ⟨v.toArray⟩] 26)).alloc (.cells #[.int .i64 0] 27) = W1 at HBF HBN HKB HZ z0 z1 z2 z3 ⊢
 refine (HSO.out W1 HKB.out).mono ?_
 rintro e w2 ⟨⟨h', hr, rfl, hr6⟩ | ⟨hr, rfl⟩, hk2⟩
 rotate_left
 ·have HK2 := Lib.hid (HKB.out.trans' hk2)
  have hb := blk_keep HBN.out hk2 (by simp)
  have hc := cell_of_blk hb 0
  have hz := free_of_blk hb 0
  have HC1 := Lib.hid (World.cell?_setCell_same w2 ⟨w.heap.size + 1, 0, none⟩ (.int .i64 2) hc)
  have HRQ : Hid (MnsQ (ents lo) (ents lb') t w (.returned (.tuple #[.bool false, .int .i64 2])) (w2.setCell ⟨w.heap.size + 1, 0, none⟩ (.int .i64 2))) := ⟨by unfold meansP; rw [if_neg (by rw [hr]; simp)]; rfl, HEND.out _ _ HK2.out⟩
  clear hr hk2 hb z0 z1 z2 z3
  go_wp2_with fail
  refine leaves_cons (f := 70) (args := #[.pointer (some ⟨w.heap.size + 1, 0, none⟩)]) (by simp) (by simp [go_sem]) ?_
  refine (fmeans_panicking (w.heap.size + 1) 0 2 [] w2 hc hz).mono ?_
  rintro e u' w'' ⟨rfl, rfl, rfl⟩
  have hcs2 := HC1.out
  simp [Leaves, settle, results, Tryz.results26, go_sem, hcs2]
  exact HRQ.out
 ·have HR := Lib.hid hr
  have HR6 := Lib.hid hr6
  have HB2 := Lib.hid (blk_keep HBF.out hk2 (by simp))
  have HN2 := Lib.hid (blk_keep HBN.out hk2 (by simp))
  have HK2 := Lib.hid (HKB.out.trans' hk2)
  have hzz : w.heap.size + 2 ≤ w2.heap.size := by have := HZ.out; have := hk2.size; omega
  obtain ⟨k', B', l9, cb', s', v'⟩ := h'
  unfold FH.val tv
  dsimp only
  obtain ⟨g, hg⟩ : ∃ g, w.heap.size = g := ⟨_, rfl⟩
  have HG := Lib.hid hg
  rw [hg] at HB2 HN2 HEND hzz ⊢
  obtain ⟨⟨r0, r1, r2, r3⟩, s0, s1, s2, s3⟩ := four_facts8 HB2.out
  have HR6' := heap_setCell_same _ g 0 _ _ (.int .i64 k') HB2.out
  have HR7 := heap_setCell_same _ g 1 _ _ (.slice B' l9 cb') HR6'
  have HR8 := heap_setCell_same _ g 2 _ _ (.string ⟨s'.toArray⟩) HR7
  have HB3 := Lib.hid (heap_setCell_same _ g 3 _ _ (.string ⟨v'.toArray⟩) HR8)
  have HK9 : Hid (Keeps [g] w2 ((((w2.setCell ⟨g, 0, none⟩ (.int .i64 k')).setCell ⟨g, 1, none⟩ (.slice B' l9 cb')).setCell ⟨g, 2, none⟩ (.string ⟨s'.toArray⟩)).setCell ⟨g, 3, none⟩ (.string ⟨v'.toArray⟩))) := ((((Keeps.refl [g] w2).setCell (.inl (by simp)) _).setCell (.inl (by simp)) _).setCell (.inl (by simp)) _).setCell (.inl (by simp)) _
  clear hr hr6 hk2 z0 z1 z2 z3 hg HR6' HR7 HR8
  obtain ⟨W3, hW3⟩ : ∃ W3, ((((w2.setCell ⟨g, 0, none⟩ (.int .i64 k')).setCell ⟨g, 1, none⟩ (.slice B' l9 cb')).setCell ⟨g, 2, none⟩ (.string ⟨s'.toArray⟩)).setCell ⟨g, 3, none⟩ (.string ⟨v'.toArray⟩)) = W3 := ⟨_, rfl⟩
  have HW3 := Lib.hid hW3
  rw [hW3] at HB3 HK9
  have HN3 := Lib.hid (blk_keep HN2.out HK9.out (by simp))
  have HK3 : Hid (Keeps [] w W3) := HK2.out.trans HK9.out (fun x hx => .inr (by rw [List.mem_singleton.1 hx, HG.out]; exact Nat.le_refl _))
  have HF3 : Hid (∀ X, Keeps [] W3 X → FilAt X (lowF t) ⟨k', B', l9, cb', s', v'⟩) := fun X hX => HR6.out [g] X (fun x hx => by rw [List.mem_singleton.1 hx]; have := HZ.out; have := HG.out; omega) (HK9.out.trans hX (by simp))
  have HBS := Lib.hid (heap_new8 W3 (.cells #[.slice A n c, .slice Bb m d] 110))
  have HK4 : Hid (Keeps [] W3 (W3.alloc (.cells #[.slice A n c, .slice Bb m d] 110))) := (Keeps.refl [] W3).alloc _
  obtain ⟨⟨u0, u1⟩, _⟩ := blk2 HBS.out
  go_wp2_with fail
  clear hW3 s0 s1 s2 s3 r0 r1 r2 r3
  have HKA := Lib.hid (HK3.out.trans' HK4.out)
  refine (HST.out _ HKA.out).mono ?_
  rintro e w5 ⟨rfl, hk5⟩
  have HK5 := Lib.hid (HKA.out.trans' hk5)
  have HB5 := Lib.hid (blk_keep (blk_keep HB3.out HK4.out (by simp)) hk5 (by simp))
  have HS5 := Lib.hid (blk_keep HBS.out hk5 (by simp))
  have HN5 := Lib.hid (blk_keep (blk_keep HN3.out HK4.out (by simp)) hk5 (by simp))
  have HF5 := Lib.hid (HF3.out w5 (HK4.out.trans' hk5))
  clear hk5 u0 u1
  cases P
  ·have HRQ : Hid (∀ X, Keeps [] w X → MnsQ (ents lo) (ents lb') t w (.returned (.tuple #[.bool false, .int .i64 2])) X) := fun X hX => ⟨by unfold meansP; rw [if_neg (by rw [HP.out]; simp)]; rfl, hX⟩
   have hc := cell_of_blk HN5.out 0
   have hz := free_of_blk HN5.out 0
   have HC1 := Lib.hid (World.cell?_setCell_same w5 ⟨g + 1, 0, none⟩ (.int .i64 2) hc)
   go_wp2_with fail
   refine (HMN.out _).mono ?_
   rintro e w6 ⟨rfl, rfl⟩
   go_wp2_with fail
   refine leaves_cons (f := 70) (args := #[.pointer (some ⟨g + 1, 0, none⟩)]) (by simp) (by simp [go_sem]) ?_
   refine (fmeans_panicking (g + 1) 0 2 [] w5 hc hz).mono ?_
   rintro e u' w'' ⟨rfl, rfl, rfl⟩
   have hcs2 := HC1.out
   simp [Leaves, settle, results, Tryz.results26, go_sem, hcs2]
   exact HRQ.out _ (HEND.out _ _ HK5.out)
  ·have HIM5 := Lib.hid (HIM.out w5 HK5.out ⟨k', B', l9, cb', s', v'⟩ HF5.out HR.out)
   dsimp only at HIM5
   obtain ⟨q, hq⟩ : ∃ q, meanF (ents lo) (ents lb') (lowF t) = q := ⟨_, rfl⟩
   rw [hq] at HIM5
   have HRQ : Hid (∀ X, Keeps [] w X → MnsQ (ents lo) (ents lb') t w (.returned (.tuple #[.bool q, .int .i64 0])) X) := fun X hX => ⟨by unfold meansP; rw [if_pos ⟨HR.out, HP.out⟩, hq]; rfl, hX⟩
   obtain ⟨⟨u0, u1⟩, _⟩ := blk2 HS5.out
   obtain ⟨⟨r0, r1, r2, r3⟩, _⟩ := four_facts8 HB5.out
   clear hq
   go_wp2_with fail
   refine (HMY.out _).mono ?_
   rintro e w6 ⟨rfl, rfl⟩
   go_wp2_with fail
   refine HIM5.out.mono ?_
   rintro e w7 ⟨rfl, hk7⟩
   have HK7 := Lib.hid (HK5.out.trans' hk7)
   have hb := blk_keep HN5.out hk7 (by simp)
   have hc := cell_of_blk hb 0
   have hz := free_of_blk hb 0
   have HC1 := Lib.hid (World.cell?_setCell_same w7 ⟨g + 1, 0, none⟩ (.int .i64 0) hc)
   have HZ1 : Hid ((w7.setCell ⟨g + 1, 0, none⟩ (.int .i64 0)).frozen? ⟨g + 1, 0, none⟩ = false) := by show _ = _; rw [World.frozen?_setCell]; exact hz
   have HC2 := Lib.hid (World.cell?_setCell_same (w7.setCell ⟨g + 1, 0, none⟩ (.int .i64 0)) ⟨g + 1, 0, none⟩ (.int .i64 0) HC1.out)
   clear hk7 hb u0 u1 r0 r1 r2 r3
   go_wp2_with fail
   refine leaves_cons (f := 70) (args := #[.pointer (some ⟨g + 1, 0, none⟩)]) (by simp) (by simp [go_sem]) ?_
   refine (fmeans_idle (g + 1) 0 _ HC1.out HZ1.out).mono ?_
   rintro e u' w'' ⟨rfl, rfl, rfl⟩
   have hcs2 := HC2.out
   simp [Leaves, settle, results, Tryz.results26, go_sem, hcs2]
   exact HRQ.out _ (HEND.out _ _ (HEND.out _ _ HK7.out))
end Go.Proofs.YtbfebljahjmjfaaGreatDoor
/- filter: a byte that stands as it is; append of a text's bytes, and where the row lies then; grown of texts; walked. -/
namespace Go.Proofs.YtbfebljahjmjfaaGreatDoor
open Go.RowKit Go.Shelf
set_option linter.unusedVariables false
set_option linter.unusedSimpArgs false
set_option maxRecDepth 100000

/-- May a byte of a Value stand in a text as it is? -/
def plainP (c : UInt8) : Bool := decide (32 ≤ c.toNat) && (decide (c.toNat ≤ 126) && (decide (c.toNat ≠ 42) && (decide (c.toNat ≠ 40) && (decide (c.toNat ≠ 41) && decide (c.toNat ≠ 92)))))
theorem isplain8_is (c : UInt8) (w : World) : Calls Tryz.prog 207 #[.int .u8 (c.toNat : Int)] w fun e w' => e = .returned (.bool (plainP c)) ∧ w = w' := by
 have hc : c.toNat < 256 := c.toNat_lt
 obtain ⟨P, hP⟩ : ∃ P, plainP c = P := ⟨_, rfl⟩
 have HP := Lib.hid hP
 rw [hP]
 unfold plainP at HP
 clear hP
 generalize c.toNat = n at *
 by_cases h1 : 32 ≤ n
 ·have h1i : (32 : Int) ≤ (n : Int) := by omega
  by_cases h2 : n ≤ 126
  ·have h2i : (n : Int) ≤ 126 := by omega
   by_cases h3 : n = 42
   ·subst h3
    go_enter Tryz.func207, Tryz.ntmps207
    go_wp2_with fail
    go_ret
    rw [← HP.out]
    exact ⟨by simp, rfl⟩
   ·have h3i : ¬ (n : Int) = 42 := by omega
    have h3b : ((n : Int) != 42) = true := by rw [bne_iff_ne]; exact h3i
    by_cases h4 : n = 40
    ·subst h4
     go_enter Tryz.func207, Tryz.ntmps207
     go_wp2_with fail
     go_ret
     rw [← HP.out]
     exact ⟨by simp, rfl⟩
    ·have h4i : ¬ (n : Int) = 40 := by omega
     have h4b : ((n : Int) != 40) = true := by rw [bne_iff_ne]; exact h4i
     by_cases h5 : n = 41
     ·subst h5
      go_enter Tryz.func207, Tryz.ntmps207
      go_wp2_with fail
      go_ret
      rw [← HP.out]
      exact ⟨by simp, rfl⟩
     ·have h5i : ¬ (n : Int) = 41 := by omega
      have h5b : ((n : Int) != 41) = true := by rw [bne_iff_ne]; exact h5i
      by_cases h6 : n = 92
      ·subst h6
       go_enter Tryz.func207, Tryz.ntmps207
       go_wp2_with fail
       go_ret
       rw [← HP.out]
       exact ⟨by simp, rfl⟩
      ·have h6i : ¬ (n : Int) = 92 := by omega
       have h6b : ((n : Int) != 92) = true := by rw [bne_iff_ne]; exact h6i
       go_enter Tryz.func207, Tryz.ntmps207
       go_wp2_with fail
       go_ret
       rw [← HP.out]
       exact ⟨by simp [h1, h2, h3, h4, h5, h6], rfl⟩
  ·have h2i : ¬ (n : Int) ≤ 126 := by omega
   go_enter Tryz.func207, Tryz.ntmps207
   go_wp2_with fail
   go_ret
   rw [← HP.out]
   exact ⟨by simp [h2], rfl⟩
 ·have h1i : ¬ (32 : Int) ≤ (n : Int) := by omega
  go_enter Tryz.func207, Tryz.ntmps207
  go_wp2_with fail
  go_ret
  rw [← HP.out]
  exact ⟨by simp [h1], rfl⟩
theorem strCells8 (s : Txt) : Lib.strCells ⟨s.toArray⟩ = s.map bv := by
 unfold Lib.strCells
 simp [bv]
/-- Where the row lies behind an append of a text: where it lay, or at the heap's end. -/
theorem append_str8 {P : Program} {w : World} {ops : Array Oper} {rest : List Oper} {o : Oper} {a : Act} {Q : Exit → Act → World → Prop} (hgd : o.guard = none) (sl x : Operand) (t u : TypeId)
  (ho : o.op = .call { callee := .builtin .append, args := #[sl, x], argTypes := #[t, u] })
  (base : Nat) (e : TypeId) (i : TypeInfo) (ht : P.underlying t = some (.slice e)) (hu : P.underlying u = some .string) (hi : P.info? e = some i) (hz : i.zero = some (.int .u8 0)) (hsize : i.size = 1) (hby : i.bytes = 1)
  (A : Option Addr) (n c : Nat) (xs s : Txt) (hs : a.eval sl = .slice A n c) (hown : w.ownsRow base e 1 (.slice A n c) n (xs.map bv)) (hx : a.eval x = .string ⟨s.toArray⟩) (hb : n + s.length ≤ 1000000000) (hbase : base ≤ w.heap.size)
  (h : ∀ A' c' w', w'.ownsRow base e 1 (.slice A' (n + s.length) c') (n + s.length) ((xs ++ s).map bv) → w.grownBy w' (Value.slice A n c).ownBlock → ((Value.slice A' (n + s.length) c').ownBlock = (Value.slice A n c).ownBlock ∨ (Value.slice A' (n + s.length) c').ownBlock = some w.heap.size) → wpList P ops Q rest (a.put o.dst (.slice A' (n + s.length) c')) w') : wpList P ops Q (o :: rest) a w := by
 have hss : (⟨s.toArray⟩ : ByteArray).size = s.length := rfl
 refine wpList_plain hgd fun K hK => ?_
 obtain ⟨v', w', hr, h2, h3, h4⟩ := Lib.run_append_own_string (P := P) w base t u o.type e i ht hu hi hz hsize hby (.slice A n c) n (xs.map bv) hown ⟨s.toArray⟩ (by rw [hss]; unfold maxLen; omega) (by rw [hss]; omega) hbase
 rw [hss] at h2
 have hblk : v'.ownBlock = (Value.slice A n c).ownBlock ∨ v'.ownBlock = some w.heap.size := by
  rcases hown.2 with ⟨hv, h0⟩ | ⟨g, cap, cur, hv, hbg, hg, hnc, hcm, hcs, htake⟩
  ·rw [hv] at hr h4 ⊢
   by_cases hm : s.length = 0
   ·exact .inl (by rw [h4.2 ⟨rfl, hm⟩])
   ·have hr2 := run_append_nil_string (P := P) w t u o.type e i (.int .u8 0) ht hu hi hz ⟨s.toArray⟩ (by rw [hss]; omega) (by rw [hss]; omega) (by rw [hss, hby]; omega)
    rw [hr] at hr2
    injection hr2 with e1 _
    exact .inr (by rw [e1]; rfl)
  ·rw [hv] at hr ⊢
   by_cases hroom : n + s.length ≤ cap
   ·have hr2 := Lib.run_append_room_string (P := P) w t u o.type e i ht hu hi hsize g n cap cur hg ⟨s.toArray⟩ hroom (by rw [hss, hcs]; omega)
    rw [hr] at hr2
    injection hr2 with e1 _
    exact .inl (by rw [e1]; rfl)
   ·have hr2 := Lib.run_append_grow_string (P := P) w t u o.type e i (.int .u8 0) ht hu hi hz ⟨g, 0, none⟩ n cap (xs.map bv) (by rw [hsize]; simpa using hown.1) (by rw [hv] at hown; exact hown.cells (g := g) rfl) ⟨s.toArray⟩ (by rw [hss]; omega) (by rw [hss]; omega) (by rw [hss, hby]; exact growslice_fits (by omega) (by omega))
    rw [hr] at hr2
    injection hr2 with e1 _
    exact .inr (by rw [e1]; rfl)
 obtain ⟨A', c', rfl⟩ := own_slice h2
 rw [strCells8, ← List.map_append] at h2
 unfold Oper.wp execOp
 simp only [ho, resolve, invoke, builtin, Sem.run_bind, Sem.run_pure, Result.andThen_ok, List.map_toArray, List.map_cons, List.map_nil, hs, hx, hr]
 exact hK _ _ (h A' c' w' h2 h3 hblk)
end Go.Proofs.YtbfebljahjmjfaaGreatDoor
/- filter: grown, of texts and of bytes; walked. -/
namespace Go.Proofs.YtbfebljahjmjfaaGreatDoor
open Go.RowKit Go.Shelf
set_option linter.unusedVariables false
set_option linter.unusedSimpArgs false
set_option maxRecDepth 100000

/-- Rows of bytes in memory. -/
def TxsIn (w : World) (C : Option Addr) (m : Nat) (ys : List Txt) : Prop :=
 ys.length = m ∧ (0 < m → ∃ b o, C = some ⟨b, o, none⟩ ∧ ∀ (i : Nat) (y : Txt), ys[i]? = some y → ∃ A c, w.cell? ⟨b, o + i, none⟩ = some (.slice A y.length c) ∧ BytesAt w (.slice A y.length c) y)
theorem u8_info8 : (Tryz.prog.info? 5).map (fun i => (i.zero, i.size, i.bytes)) = some (some (.int .u8 0), 1, 1) := by kernel_rfl
theorem flat_step {ss : List Txt} {j : Nat} {s : Txt} (h : ss[j]? = some s) : (ss.take (j + 1)).flatten = (ss.take j).flatten ++ s := by
 rw [List.take_add_one, h]
 simp
theorem flat_le {ss : List Txt} (j : Nat) : ((ss.take j).flatten).length ≤ ss.flatten.length := by
 have h : ss.flatten = (ss.take j).flatten ++ (ss.drop j).flatten := by rw [← List.flatten_append, List.take_append_drop]
 rw [h, List.length_append]
 omega
/-- How a text grows: it lies where it lay, or in new memory. -/
def GrQ (base : Nat) (A : Option Addr) (n c : Nat) (res : Txt) (w : World) (e : Ending) (w' : World) : Prop :=
 ∃ A' c', e = .returned (.slice A' res.length c') ∧ w'.ownsRow base 5 1 (.slice A' res.length c') res.length (res.map bv) ∧ Keeps (Value.slice A n c).ownBlock.toList w w' ∧ ∀ x, (Value.slice A' res.length c').ownBlock = some x → x ∈ (Value.slice A n c).ownBlock.toList ∨ w.heap.size ≤ x
structure GrS (base : Nat) (A : Option Addr) (n c : Nat) (w wr : World) (A' : Option Addr) (m' c' : Nat) (res : Txt) : Prop where
 len : res.length = m'
 row : wr.ownsRow base 5 1 (.slice A' m' c') m' (res.map bv)
 keep : Keeps (Value.slice A n c).ownBlock.toList w wr
 blk : ∀ x, (Value.slice A' m' c').ownBlock = some x → x ∈ (Value.slice A n c).ownBlock.toList ∨ w.heap.size ≤ x
theorem GrS.step {base : Nat} {A : Option Addr} {n c : Nat} {w wr w8 : World} {A' A8 : Option Addr} {m' c' c8 : Nat} {res s : Txt} (H : GrS base A n c w wr A' m' c' res)
  (ho : w8.ownsRow base 5 1 (.slice A8 (m' + s.length) c8) (m' + s.length) ((res ++ s).map bv)) (hg : wr.grownBy w8 (Value.slice A' m' c').ownBlock) (hs : (Value.slice A8 (m' + s.length) c8).ownBlock = (Value.slice A' m' c').ownBlock ∨ (Value.slice A8 (m' + s.length) c8).ownBlock = some wr.heap.size) :
  GrS base A n c w w8 A8 (m' + s.length) c8 (res ++ s) := by
 have hz := H.keep.size
 refine ⟨by rw [List.length_append, H.len], ho, H.keep.trans (Keeps.of_grown (bs := (Value.slice A' m' c').ownBlock.toList) hg (fun x hx => .inl (by rw [hx]; simp))) (fun x hx => H.blk x (by simpa using hx)), fun x hx => ?_⟩
 rcases hs with h | h
 ·rw [h] at hx
  exact H.blk x hx
 ·rw [h] at hx
  injection hx with hx
  exact .inr (by omega)
theorem GrS.fin {base : Nat} {A : Option Addr} {n c : Nat} {w wr : World} {A' : Option Addr} {m' c' : Nat} {res : Txt} (H : GrS base A n c w wr A' m' c' res) : GrQ base A n c res w (.returned (.slice A' m' c')) wr := by
 obtain ⟨rfl, h1, h2, h3⟩ := H
 exact ⟨A', c', rfl, h1, h2, h3⟩
set_option maxHeartbeats 4000000 in
theorem growns8_is (base : Nat) (A : Option Addr) (n c : Nat) (xs : Txt) (C : Option Addr) (m d : Nat) (ss : List Txt) (w : World) (hr : w.ownsRow base 5 1 (.slice A n c) n (xs.map bv)) (hx : xs.length = n) (hm : m ≤ 1000000) (hS : ∀ X, Keeps (Value.slice A n c).ownBlock.toList w X → StrsIn X C m ss) (hb : xs.length + ss.flatten.length ≤ 1000000000) (hbase : base ≤ w.heap.size) :
  Calls Tryz.prog 200 #[.slice A n c, .slice C m d] w (GrQ base A n c (xs ++ ss.flatten) w) := by
 obtain ⟨iu, hiu, hzu0, hzu1, hzu2⟩ := info_parts u8_info8
 have HS := Lib.hid hS
 have HL : Hid (ss.length = m) := (hS w (Keeps.refl _ _)).1
 have HB := Lib.hid hb
 have HBA := Lib.hid hbase
 have HG0 : Hid (GrS base A n c w w A n c (xs ++ (ss.take 0).flatten)) := ⟨by simpa using hx, by simpa using hr, Keeps.refl _ _, fun x hx => .inl (by simpa using hx)⟩
 clear hr hS hb hbase
 go_enter Tryz.func200, Tryz.ntmps200
 go_wp2_with fail
 go_loopw [0, 9] (fun x i wr => ∃ (j : Nat) (A' : Option Addr) (m' c' : Nat), x = .slice A' m' c' ∧ i = .int .i64 (j : Int) ∧ j ≤ m ∧ Hid (GrS base A n c w wr A' m' c' (xs ++ (ss.take j).flatten))) (fun _ i _ => m - (intOf i).toNat)
 case atStart => exact ⟨0, A, n, c, rfl, rfl, Nat.zero_le _, HG0.out⟩
 case round =>
  obtain ⟨j, A', m', c', rfl, rfl, hj, HG⟩ := hrel
  have hz := HG.out.keep.size
  have hm' : m' ≤ 1000000000 := by
   have h1 := HG.out.len
   have h2 := flat_le (ss := ss) j
   have h3 := HB.out
   rw [List.length_append] at h1
   omega
  by_cases hlt : j < m
  ·obtain ⟨s, hu⟩ : ∃ s, ss[j]? = some s := ⟨_, List.getElem?_eq_getElem (by have := HL.out; omega)⟩
   obtain ⟨hl, hp, hc9⟩ := HS.out wr HG.out.keep
   obtain ⟨b, o, hA9, hcc⟩ := hc9 (by omega)
   subst hA9
   have c0 := hcc j s hu
   unfold tv at c0
   clear hcc hp hl hc9
   have HFS := Lib.hid (flat_step hu)
   have hsl : m' + s.length ≤ 1000000000 := by
    have h1 := HG.out.len
    have h2 := flat_le (ss := ss) (j + 1)
    have h3 := HB.out
    rw [HFS.out] at h2
    rw [List.length_append] at h1 h2
    omega
   have hji : (j : Int) < (m : Int) := by omega
   have hj0 : (0 : Int) ≤ (j : Int) := by omega
   have HSZ : Hid (base ≤ wr.heap.size) := Nat.le_trans HBA.out hz
   clear hu
   go_wp2_with (at_builtin; refine append_str8 rfl (.tmp 13) (.tmp 14) 37 9 rfl base 5 iu Tryz.underlying37 Tryz.underlying9 hiu hzu0 hzu1 hzu2 A' m' c' _ s rfl HG.out.row rfl (by omega) HSZ.out ?_; intro A8 c8 w8 ho hg8 hs8; have HY : Hid (GrS base A n c w w8 A8 (m' + s.length) c8 (xs ++ (ss.take (j + 1)).flatten)) := (by show GrS _ _ _ _ _ _ _ _ _ _; rw [HFS.out, ← List.append_assoc]; exact HG.out.step ho hg8 hs8); clear ho hg8 hs8)
   go_roundw
   case rel => exact ⟨j + 1, A8, _, c8, rfl, by go_num, by omega, HY.out⟩
   case measure => simp [intOf]; omega
  ·obtain rfl : j = m := by omega
   have h9 := HG.out
   rw [List.take_of_length_le (by rw [HL.out]; exact Nat.le_refl _)] at h9
   have H9 := Lib.hid h9
   clear h9
   go_wp2_with fail
   go_ret
   exact H9.out.fin
set_option maxHeartbeats 4000000 in
theorem grownb8_is (base : Nat) (A : Option Addr) (n c : Nat) (xs : Txt) (C : Option Addr) (m d : Nat) (ss : List Txt) (w : World) (hr : w.ownsRow base 5 1 (.slice A n c) n (xs.map bv)) (hx : xs.length = n) (hm : m ≤ 1000000) (hS : ∀ X, Keeps (Value.slice A n c).ownBlock.toList w X → TxsIn X C m ss) (hb : xs.length + ss.flatten.length ≤ 1000000000) (hbase : base ≤ w.heap.size) :
  Calls Tryz.prog 202 #[.slice A n c, .slice C m d] w (GrQ base A n c (xs ++ ss.flatten) w) := by
 obtain ⟨iu, hiu, hzu0, hzu1, hzu2⟩ := info_parts u8_info8
 have HS := Lib.hid hS
 have HL : Hid (ss.length = m) := (hS w (Keeps.refl _ _)).1
 have HB := Lib.hid hb
 have HBA := Lib.hid hbase
 have HG0 : Hid (GrS base A n c w w A n c (xs ++ (ss.take 0).flatten)) := ⟨by simpa using hx, by simpa using hr, Keeps.refl _ _, fun x hx => .inl (by simpa using hx)⟩
 clear hr hS hb hbase
 go_enter Tryz.func202, Tryz.ntmps202
 go_wp2_with fail
 go_loopw [0, 9] (fun x i wr => ∃ (j : Nat) (A' : Option Addr) (m' c' : Nat), x = .slice A' m' c' ∧ i = .int .i64 (j : Int) ∧ j ≤ m ∧ Hid (GrS base A n c w wr A' m' c' (xs ++ (ss.take j).flatten))) (fun _ i _ => m - (intOf i).toNat)
 case atStart => exact ⟨0, A, n, c, rfl, rfl, Nat.zero_le _, HG0.out⟩
 case round =>
  obtain ⟨j, A', m', c', rfl, rfl, hj, HG⟩ := hrel
  have hz := HG.out.keep.size
  have hm' : m' ≤ 1000000000 := by
   have h1 := HG.out.len
   have h2 := flat_le (ss := ss) j
   have h3 := HB.out
   rw [List.length_append] at h1
   omega
  by_cases hlt : j < m
  ·obtain ⟨s, hu⟩ : ∃ s, ss[j]? = some s := ⟨_, List.getElem?_eq_getElem (by have := HL.out; omega)⟩
   obtain ⟨hl, hc9⟩ := HS.out wr HG.out.keep
   obtain ⟨b, o, hA9, hcc⟩ := hc9 (by omega)
   subst hA9
   obtain ⟨sA, sc, c0, hby⟩ := hcc j s hu
   have HSR := Lib.hid (Src.of_bytes hby)
   have hbv : ∀ u ∈ s.map bv, u.oneCell' = true := fun u hu => by
    obtain ⟨x, _, rfl⟩ := List.mem_map.1 hu
    rfl
   have HBV := Lib.hid hbv
   have HSL9 : Hid ((s.map bv).length = s.length * 1) := by show _ = _; simp
   clear hcc hl hc9 hby hbv
   have HFS := Lib.hid (flat_step hu)
   have hsl : m' + s.length ≤ 1000000000 := by
    have h1 := HG.out.len
    have h2 := flat_le (ss := ss) (j + 1)
    have h3 := HB.out
    rw [HFS.out] at h2
    rw [List.length_append] at h1 h2
    omega
   have hji : (j : Int) < (m : Int) := by omega
   have hj0 : (0 : Int) ≤ (j : Int) := by omega
   have HSZ : Hid (base ≤ wr.heap.size) := Nat.le_trans HBA.out hz
   clear hu
   go_wp2_with (at_builtin; refine wpList_append_opt rfl (.tmp 13) (.tmp 14) 37 rfl base 5 iu _ 1 1 Tryz.underlying37 hiu hzu0 hzu1 hzu2 rfl (by decide) (.slice A' m' c') m' _ rfl HG.out.row sA s.length sc (s.map bv) rfl HSL9.out HSR.out HBV.out (by unfold maxLen; omega) (by omega) HSZ.out ?_; intro v8 w8 ho hg8 hs8; obtain ⟨A8, c8, hv8⟩ := own_slice ho; subst hv8; have HY : Hid (GrS base A n c w w8 A8 (m' + s.length) c8 (xs ++ (ss.take (j + 1)).flatten)) := (by show GrS _ _ _ _ _ _ _ _ _ _; rw [HFS.out, ← List.append_assoc]; exact HG.out.step (by rw [List.map_append]; exact ho) hg8 hs8); clear ho hg8 hs8)
   go_roundw
   case rel => exact ⟨j + 1, A8, _, c8, rfl, by go_num, by omega, HY.out⟩
   case measure => simp [intOf]; omega
  ·obtain rfl : j = m := by omega
   have h9 := HG.out
   rw [List.take_of_length_le (by rw [HL.out]; exact Nat.le_refl _)] at h9
   have H9 := Lib.hid h9
   clear h9
   go_wp2_with fail
   go_ret
   exact H9.out.fin
end Go.Proofs.YtbfebljahjmjfaaGreatDoor
