/- Texts of one proof, laid together: F21 F22 F23 F24 F26 F25. -/
import Derived.Test.YtbfebljahjmjfaaGreatDoorME7
import Derived.BigQuiet
import Derived.Lib.AppendStr
import Derived.Lib.SlBytesConst
/- filter: Means; walked. -/
namespace Go.Proofs.YtbfebljahjmjfaaGreatDoor
open Go.RowKit Go.Shelf
set_option linter.unusedVariables false
set_option linter.unusedSimpArgs false
set_option maxRecDepth 100000

/-- What Means answers. -/
def meansP (own beside : List Att) (t : FV) : Bool × Nat := if rightF t = true ∧ standsP own beside = true then (meanF own beside (lowF t), 0) else (false, 2)
def MnsQ (own beside : List Att) (t : FV) (w : World) (e : Ending) (w' : World) : Prop := e = .returned (.tuple #[.bool (meansP own beside t).1, .int .i64 ((meansP own beside t).2 : Int)]) ∧ Keeps [] w w'
theorem rightF_low (t : FV) : rightF (lowF t) = rightF t := by unfold rightF; rw [thruF_low]
set_option maxHeartbeats 8000000 in
theorem means8_is (S : SubV) (lo lb' : List At7) (t : FV) (h : FH) (w : World) (hS : SubOk w S lo lb') (ht : FilAt w t h) :
    Calls Tryz.prog 26 #[h.val, .slice S.A S.n S.c, .slice S.B S.m S.d] w (MnsQ (ents lo) (ents lb') t w) := by
  have hmf : ∀ (fn : Fn) (first cap : Array Value) (w : World), (Instr.makeFunc fn first cap).run Tryz.prog w = .ok (.func fn first cap) w := fun _ _ _ _ => rfl
  have HSO := Lib.hid (fun X (hX : Keeps [] w X) => sound_is 2 t h X (FilAt.grow hX t h ht))
  have HST := Lib.hid (fun X (hX : Keeps [] w X) => stands8_is S lo lb' X (hS.grow hX))
  have HIM := Lib.hid (fun X (hX : Keeps [] w X) (h' : FH) (ha : FilAt X (lowF t) h') (hr : rightF t = true) => ismeant_is S lo lb' (lowF t) h' X (hS.grow hX) ha (by rw [rightF_low]; exact hr))
  have HMY := Lib.hid (must8_yes 2)
  have HMN := Lib.hid (must8_no 2)
  obtain ⟨P, hP⟩ : ∃ P, standsP (ents lo) (ents lb') = P := ⟨_, rfl⟩
  rw [hP] at HST
  have HP := Lib.hid hP
  obtain ⟨k, B, lb, cb, s, v⟩ := h
  obtain ⟨A, n, c, Bb, m, d⟩ := S
  unfold SubV.val FH.val tv at *
  dsimp only at *
  clear ht hS hP
  have b1 := heap_new8 w (.cells #[.int .i64 k, .slice B lb cb, .string ⟨s.toArray⟩, .string ⟨v.toArray⟩] 26)
  have k1 : Keeps [] w (w.alloc (.cells #[.int .i64 k, .slice B lb cb, .string ⟨s.toArray⟩, .string ⟨v.toArray⟩] 26)) := (Keeps.refl [] w).alloc _
  have k2 : Keeps [] (w.alloc (.cells #[.int .i64 k, .slice B lb cb, .string ⟨s.toArray⟩, .string ⟨v.toArray⟩] 26)) ((w.alloc (.cells #[.int .i64 k, .slice B lb cb, .string ⟨s.toArray⟩, .string ⟨v.toArray⟩] 26)).alloc (.cells #[.int .i64 0] 27)) := (Keeps.refl [] _).alloc _
  have b2 := heap_new8 (w.alloc (.cells #[.int .i64 k, .slice B lb cb, .string ⟨s.toArray⟩, .string ⟨v.toArray⟩] 26)) (.cells #[.int .i64 0] 27)
  have HBF := Lib.hid (blk_keep b1 k2 (by simp))
  have HBN := Lib.hid b2
  have HKB := Lib.hid (k1.trans' k2)
  have HZ : Hid (((w.alloc (.cells #[.int .i64 k, .slice B lb cb, .string ⟨s.toArray⟩, .string ⟨v.toArray⟩] 26)).alloc (.cells #[.int .i64 0] 27)).heap.size = w.heap.size + 2) := by show _ = _; simp
  simp only [World.size_alloc] at HBN
  clear k1 k2 b1 b2
  have HEND : Hid (∀ X v, Keeps [] w X → Keeps [] w (X.setCell ⟨w.heap.size + 1, 0, none⟩ v)) := fun X v hk => hk.setCell (.inr (Nat.le_succ _)) _
  obtain ⟨⟨z0, z1, z2, z3⟩, _⟩ := four_facts8 HBF.out
  go_enter_defers Tryz.func26, Tryz.ntmps26
  go_wp2_with fail
  generalize (w.alloc (.cells #[.int .i64 k, .slice B lb cb, .string ⟨s.toArray⟩, .string ⟨v.toArray⟩] 26)).alloc (.cells #[.int .i64 0] 27) = W1 at HBF HBN HKB HZ z0 z1 z2 z3 ⊢
  refine (HSO.out W1 HKB.out).mono ?_
  rintro e w2 ⟨⟨h', hr, rfl, hr6⟩ | ⟨hr, rfl⟩, hk2⟩
  rotate_left
  · have HK2 := Lib.hid (HKB.out.trans' hk2)
    have hb := blk_keep HBN.out hk2 (by simp)
    have hc := cell_of_blk hb 0
    have hz := free_of_blk hb 0
    have HC1 := Lib.hid (World.cell?_setCell_same w2 ⟨w.heap.size + 1, 0, none⟩ (.int .i64 2) hc)
    have HRQ : Hid (MnsQ (ents lo) (ents lb') t w (.returned (.tuple #[.bool false, .int .i64 2])) (w2.setCell ⟨w.heap.size + 1, 0, none⟩ (.int .i64 2))) := ⟨by unfold meansP; rw [if_neg (by rw [hr]; simp)]; rfl, HEND.out _ _ HK2.out⟩
    clear hr hk2 hb z0 z1 z2 z3
    go_wp2_with fail
    refine leaves_cons (f := 70) (args := #[.pointer (some ⟨w.heap.size + 1, 0, none⟩)]) (by simp) (by simp [go_sem]) ?_
    refine (fmeans_panicking (w.heap.size + 1) 0 2 [] w2 hc hz).mono ?_
    rintro e u' w'' ⟨rfl, rfl, rfl⟩
    have hcs2 := HC1.out
    simp [Leaves, settle, results, Tryz.results26, go_sem, hcs2]
    exact HRQ.out
  · have HR := Lib.hid hr
    have HR6 := Lib.hid hr6
    have HB2 := Lib.hid (blk_keep HBF.out hk2 (by simp))
    have HN2 := Lib.hid (blk_keep HBN.out hk2 (by simp))
    have HK2 := Lib.hid (HKB.out.trans' hk2)
    have hzz : w.heap.size + 2 ≤ w2.heap.size := by have := HZ.out; have := hk2.size; omega
    obtain ⟨k', B', l9, cb', s', v'⟩ := h'
    unfold FH.val tv
    dsimp only
    obtain ⟨g, hg⟩ : ∃ g, w.heap.size = g := ⟨_, rfl⟩
    have HG := Lib.hid hg
    rw [hg] at HB2 HN2 HEND hzz ⊢
    obtain ⟨⟨r0, r1, r2, r3⟩, s0, s1, s2, s3⟩ := four_facts8 HB2.out
    have HR6' := heap_setCell_same _ g 0 _ _ (.int .i64 k') HB2.out
    have HR7 := heap_setCell_same _ g 1 _ _ (.slice B' l9 cb') HR6'
    have HR8 := heap_setCell_same _ g 2 _ _ (.string ⟨s'.toArray⟩) HR7
    have HB3 := Lib.hid (heap_setCell_same _ g 3 _ _ (.string ⟨v'.toArray⟩) HR8)
    have HK9 : Hid (Keeps [g] w2 ((((w2.setCell ⟨g, 0, none⟩ (.int .i64 k')).setCell ⟨g, 1, none⟩ (.slice B' l9 cb')).setCell ⟨g, 2, none⟩ (.string ⟨s'.toArray⟩)).setCell ⟨g, 3, none⟩ (.string ⟨v'.toArray⟩))) := ((((Keeps.refl [g] w2).setCell (.inl (by simp)) _).setCell (.inl (by simp)) _).setCell (.inl (by simp)) _).setCell (.inl (by simp)) _
    clear hr hr6 hk2 z0 z1 z2 z3 hg HR6' HR7 HR8
    obtain ⟨W3, hW3⟩ : ∃ W3, ((((w2.setCell ⟨g, 0, none⟩ (.int .i64 k')).setCell ⟨g, 1, none⟩ (.slice B' l9 cb')).setCell ⟨g, 2, none⟩ (.string ⟨s'.toArray⟩)).setCell ⟨g, 3, none⟩ (.string ⟨v'.toArray⟩)) = W3 := ⟨_, rfl⟩
    have HW3 := Lib.hid hW3
    rw [hW3] at HB3 HK9
    have HN3 := Lib.hid (blk_keep HN2.out HK9.out (by simp))
    have HK3 : Hid (Keeps [] w W3) := HK2.out.trans HK9.out (fun x hx => .inr (by rw [List.mem_singleton.1 hx, HG.out]; exact Nat.le_refl _))
    have HF3 : Hid (∀ X, Keeps [] W3 X → FilAt X (lowF t) ⟨k', B', l9, cb', s', v'⟩) := fun X hX => HR6.out [g] X (fun x hx => by rw [List.mem_singleton.1 hx]; have := HZ.out; have := HG.out; omega) (HK9.out.trans hX (by simp))
    have HBS := Lib.hid (heap_new8 W3 (.cells #[.slice A n c, .slice Bb m d] 110))
    have HK4 : Hid (Keeps [] W3 (W3.alloc (.cells #[.slice A n c, .slice Bb m d] 110))) := (Keeps.refl [] W3).alloc _
    obtain ⟨⟨u0, u1⟩, _⟩ := blk2 HBS.out
    go_wp2_with fail
    clear hW3 s0 s1 s2 s3 r0 r1 r2 r3
    have HKA := Lib.hid (HK3.out.trans' HK4.out)
    refine (HST.out _ HKA.out).mono ?_
    rintro e w5 ⟨rfl, hk5⟩
    have HK5 := Lib.hid (HKA.out.trans' hk5)
    have HB5 := Lib.hid (blk_keep (blk_keep HB3.out HK4.out (by simp)) hk5 (by simp))
    have HS5 := Lib.hid (blk_keep HBS.out hk5 (by simp))
    have HN5 := Lib.hid (blk_keep (blk_keep HN3.out HK4.out (by simp)) hk5 (by simp))
    have HF5 := Lib.hid (HF3.out w5 (HK4.out.trans' hk5))
    clear hk5 u0 u1
    cases P
    · have HRQ : Hid (∀ X, Keeps [] w X → MnsQ (ents lo) (ents lb') t w (.returned (.tuple #[.bool false, .int .i64 2])) X) := fun X hX => ⟨by unfold meansP; rw [if_neg (by rw [HP.out]; simp)]; rfl, hX⟩
      have hc := cell_of_blk HN5.out 0
      have hz := free_of_blk HN5.out 0
      have HC1 := Lib.hid (World.cell?_setCell_same w5 ⟨g + 1, 0, none⟩ (.int .i64 2) hc)
      go_wp2_with fail
      refine (HMN.out _).mono ?_
      rintro e w6 ⟨rfl, rfl⟩
      go_wp2_with fail
      refine leaves_cons (f := 70) (args := #[.pointer (some ⟨g + 1, 0, none⟩)]) (by simp) (by simp [go_sem]) ?_
      refine (fmeans_panicking (g + 1) 0 2 [] w5 hc hz).mono ?_
      rintro e u' w'' ⟨rfl, rfl, rfl⟩
      have hcs2 := HC1.out
      simp [Leaves, settle, results, Tryz.results26, go_sem, hcs2]
      exact HRQ.out _ (HEND.out _ _ HK5.out)
    · have HIM5 := Lib.hid (HIM.out w5 HK5.out ⟨k', B', l9, cb', s', v'⟩ HF5.out HR.out)
      dsimp only at HIM5
      obtain ⟨q, hq⟩ : ∃ q, meanF (ents lo) (ents lb') (lowF t) = q := ⟨_, rfl⟩
      rw [hq] at HIM5
      have HRQ : Hid (∀ X, Keeps [] w X → MnsQ (ents lo) (ents lb') t w (.returned (.tuple #[.bool q, .int .i64 0])) X) := fun X hX => ⟨by unfold meansP; rw [if_pos ⟨HR.out, HP.out⟩, hq]; rfl, hX⟩
      obtain ⟨⟨u0, u1⟩, _⟩ := blk2 HS5.out
      obtain ⟨⟨r0, r1, r2, r3⟩, _⟩ := four_facts8 HB5.out
      clear hq
      go_wp2_with fail
      refine (HMY.out _).mono ?_
      rintro e w6 ⟨rfl, rfl⟩
      go_wp2_with fail
      refine HIM5.out.mono ?_
      rintro e w7 ⟨rfl, hk7⟩
      have HK7 := Lib.hid (HK5.out.trans' hk7)
      have hb := blk_keep HN5.out hk7 (by simp)
      have hc := cell_of_blk hb 0
      have hz := free_of_blk hb 0
      have HC1 := Lib.hid (World.cell?_setCell_same w7 ⟨g + 1, 0, none⟩ (.int .i64 0) hc)
      have HZ1 : Hid ((w7.setCell ⟨g + 1, 0, none⟩ (.int .i64 0)).frozen? ⟨g + 1, 0, none⟩ = false) := by show _ = _; rw [World.frozen?_setCell]; exact hz
      have HC2 := Lib.hid (World.cell?_setCell_same (w7.setCell ⟨g + 1, 0, none⟩ (.int .i64 0)) ⟨g + 1, 0, none⟩ (.int .i64 0) HC1.out)
      clear hk7 hb u0 u1 r0 r1 r2 r3
      go_wp2_with fail
      refine leaves_cons (f := 70) (args := #[.pointer (some ⟨g + 1, 0, none⟩)]) (by simp) (by simp [go_sem]) ?_
      refine (fmeans_idle (g + 1) 0 _ HC1.out HZ1.out).mono ?_
      rintro e u' w'' ⟨rfl, rfl, rfl⟩
      have hcs2 := HC2.out
      simp [Leaves, settle, results, Tryz.results26, go_sem, hcs2]
      exact HRQ.out _ (HEND.out _ _ (HEND.out _ _ HK7.out))
end Go.Proofs.YtbfebljahjmjfaaGreatDoor
/- filter: a byte that stands as it is; append of a text's bytes, and where the row lies then; grown of texts; walked. -/
namespace Go.Proofs.YtbfebljahjmjfaaGreatDoor
open Go.RowKit Go.Shelf
set_option linter.unusedVariables false
set_option linter.unusedSimpArgs false
set_option maxRecDepth 100000

/-- May a byte of a Value stand in a text as it is? -/
def plainP (c : UInt8) : Bool := decide (32 ≤ c.toNat) && (decide (c.toNat ≤ 126) && (decide (c.toNat ≠ 42) && (decide (c.toNat ≠ 40) && (decide (c.toNat ≠ 41) && decide (c.toNat ≠ 92)))))
theorem isplain8_is (c : UInt8) (w : World) : Calls Tryz.prog 207 #[.int .u8 (c.toNat : Int)] w fun e w' => e = .returned (.bool (plainP c)) ∧ w = w' := by
  have hc : c.toNat < 256 := c.toNat_lt
  obtain ⟨P, hP⟩ : ∃ P, plainP c = P := ⟨_, rfl⟩
  have HP := Lib.hid hP
  rw [hP]
  unfold plainP at HP
  clear hP
  generalize c.toNat = n at *
  by_cases h1 : 32 ≤ n
  · have h1i : (32 : Int) ≤ (n : Int) := by omega
    by_cases h2 : n ≤ 126
    · have h2i : (n : Int) ≤ 126 := by omega
      by_cases h3 : n = 42
      · subst h3
        go_enter Tryz.func207, Tryz.ntmps207
        go_wp2_with fail
        go_ret
        rw [← HP.out]
        exact ⟨by simp, rfl⟩
      · have h3i : ¬ (n : Int) = 42 := by omega
        have h3b : ((n : Int) != 42) = true := by rw [bne_iff_ne]; exact h3i
        by_cases h4 : n = 40
        · subst h4
          go_enter Tryz.func207, Tryz.ntmps207
          go_wp2_with fail
          go_ret
          rw [← HP.out]
          exact ⟨by simp, rfl⟩
        · have h4i : ¬ (n : Int) = 40 := by omega
          have h4b : ((n : Int) != 40) = true := by rw [bne_iff_ne]; exact h4i
          by_cases h5 : n = 41
          · subst h5
            go_enter Tryz.func207, Tryz.ntmps207
            go_wp2_with fail
            go_ret
            rw [← HP.out]
            exact ⟨by simp, rfl⟩
          · have h5i : ¬ (n : Int) = 41 := by omega
            have h5b : ((n : Int) != 41) = true := by rw [bne_iff_ne]; exact h5i
            by_cases h6 : n = 92
            · subst h6
              go_enter Tryz.func207, Tryz.ntmps207
              go_wp2_with fail
              go_ret
              rw [← HP.out]
              exact ⟨by simp, rfl⟩
            · have h6i : ¬ (n : Int) = 92 := by omega
              have h6b : ((n : Int) != 92) = true := by rw [bne_iff_ne]; exact h6i
              go_enter Tryz.func207, Tryz.ntmps207
              go_wp2_with fail
              go_ret
              rw [← HP.out]
              exact ⟨by simp [h1, h2, h3, h4, h5, h6], rfl⟩
    · have h2i : ¬ (n : Int) ≤ 126 := by omega
      go_enter Tryz.func207, Tryz.ntmps207
      go_wp2_with fail
      go_ret
      rw [← HP.out]
      exact ⟨by simp [h2], rfl⟩
  · have h1i : ¬ (32 : Int) ≤ (n : Int) := by omega
    go_enter Tryz.func207, Tryz.ntmps207
    go_wp2_with fail
    go_ret
    rw [← HP.out]
    exact ⟨by simp [h1], rfl⟩
theorem strCells8 (s : Txt) : Lib.strCells ⟨s.toArray⟩ = s.map bv := by
  unfold Lib.strCells
  simp [bv]
/-- Where the row lies behind an append of a text: where it lay, or at the heap's end. -/
theorem append_str8 {P : Program} {w : World} {ops : Array Oper} {rest : List Oper} {o : Oper} {a : Act} {Q : Exit → Act → World → Prop} (hgd : o.guard = none) (sl x : Operand) (t u : TypeId)
    (ho : o.op = .call { callee := .builtin .append, args := #[sl, x], argTypes := #[t, u] })
    (base : Nat) (e : TypeId) (i : TypeInfo) (ht : P.underlying t = some (.slice e)) (hu : P.underlying u = some .string) (hi : P.info? e = some i) (hz : i.zero = some (.int .u8 0)) (hsize : i.size = 1) (hby : i.bytes = 1)
    (A : Option Addr) (n c : Nat) (xs s : Txt) (hs : a.eval sl = .slice A n c) (hown : w.ownsRow base e 1 (.slice A n c) n (xs.map bv)) (hx : a.eval x = .string ⟨s.toArray⟩) (hb : n + s.length ≤ 1000000000) (hbase : base ≤ w.heap.size)
    (h : ∀ A' c' w', w'.ownsRow base e 1 (.slice A' (n + s.length) c') (n + s.length) ((xs ++ s).map bv) → w.grownBy w' (Value.slice A n c).ownBlock → ((Value.slice A' (n + s.length) c').ownBlock = (Value.slice A n c).ownBlock ∨ (Value.slice A' (n + s.length) c').ownBlock = some w.heap.size) → wpList P ops Q rest (a.put o.dst (.slice A' (n + s.length) c')) w') : wpList P ops Q (o :: rest) a w := by
  have hss : (⟨s.toArray⟩ : ByteArray).size = s.length := rfl
  refine wpList_plain hgd fun K hK => ?_
  obtain ⟨v', w', hr, h2, h3, h4⟩ := Lib.run_append_own_string (P := P) w base t u o.type e i ht hu hi hz hsize hby (.slice A n c) n (xs.map bv) hown ⟨s.toArray⟩ (by rw [hss]; unfold maxLen; omega) (by rw [hss]; omega) hbase
  rw [hss] at h2
  have hblk : v'.ownBlock = (Value.slice A n c).ownBlock ∨ v'.ownBlock = some w.heap.size := by
    rcases hown.2 with ⟨hv, h0⟩ | ⟨g, cap, cur, hv, hbg, hg, hnc, hcm, hcs, htake⟩
    · rw [hv] at hr h4 ⊢
      by_cases hm : s.length = 0
      · exact .inl (by rw [h4.2 ⟨rfl, hm⟩])
      · have hr2 := run_append_nil_string (P := P) w t u o.type e i (.int .u8 0) ht hu hi hz ⟨s.toArray⟩ (by rw [hss]; omega) (by rw [hss]; omega) (by rw [hss, hby]; omega)
        rw [hr] at hr2
        injection hr2 with e1 _
        exact .inr (by rw [e1]; rfl)
    · rw [hv] at hr ⊢
      by_cases hroom : n + s.length ≤ cap
      · have hr2 := Lib.run_append_room_string (P := P) w t u o.type e i ht hu hi hsize g n cap cur hg ⟨s.toArray⟩ hroom (by rw [hss, hcs]; omega)
        rw [hr] at hr2
        injection hr2 with e1 _
        exact .inl (by rw [e1]; rfl)
      · have hr2 := Lib.run_append_grow_string (P := P) w t u o.type e i (.int .u8 0) ht hu hi hz ⟨g, 0, none⟩ n cap (xs.map bv) (by rw [hsize]; simpa using hown.1) (by rw [hv] at hown; exact hown.cells (g := g) rfl) ⟨s.toArray⟩ (by rw [hss]; omega) (by rw [hss]; omega) (by rw [hss, hby]; exact growslice_fits (by omega) (by omega))
        rw [hr] at hr2
        injection hr2 with e1 _
        exact .inr (by rw [e1]; rfl)
  obtain ⟨A', c', rfl⟩ := own_slice h2
  rw [strCells8, ← List.map_append] at h2
  unfold Oper.wp execOp
  simp only [ho, resolve, invoke, builtin, Sem.run_bind, Sem.run_pure, Result.andThen_ok, List.map_toArray, List.map_cons, List.map_nil, hs, hx, hr]
  exact hK _ _ (h A' c' w' h2 h3 hblk)
end Go.Proofs.YtbfebljahjmjfaaGreatDoor
/- filter: grown, of texts and of bytes; walked. -/
namespace Go.Proofs.YtbfebljahjmjfaaGreatDoor
open Go.RowKit Go.Shelf
set_option linter.unusedVariables false
set_option linter.unusedSimpArgs false
set_option maxRecDepth 100000

/-- Rows of bytes in memory. -/
def TxsIn (w : World) (C : Option Addr) (m : Nat) (ys : List Txt) : Prop :=
  ys.length = m ∧ (0 < m → ∃ b o, C = some ⟨b, o, none⟩ ∧ ∀ (i : Nat) (y : Txt), ys[i]? = some y → ∃ A c, w.cell? ⟨b, o + i, none⟩ = some (.slice A y.length c) ∧ BytesAt w (.slice A y.length c) y)
theorem u8_info8 : (Tryz.prog.info? 5).map (fun i => (i.zero, i.size, i.bytes)) = some (some (.int .u8 0), 1, 1) := by kernel_rfl
theorem flat_step {ss : List Txt} {j : Nat} {s : Txt} (h : ss[j]? = some s) : (ss.take (j + 1)).flatten = (ss.take j).flatten ++ s := by
  rw [List.take_add_one, h]
  simp
theorem flat_le {ss : List Txt} (j : Nat) : ((ss.take j).flatten).length ≤ ss.flatten.length := by
  have h : ss.flatten = (ss.take j).flatten ++ (ss.drop j).flatten := by rw [← List.flatten_append, List.take_append_drop]
  rw [h, List.length_append]
  omega
/-- How a text grows: it lies where it lay, or in new memory. -/
def GrQ (base : Nat) (A : Option Addr) (n c : Nat) (res : Txt) (w : World) (e : Ending) (w' : World) : Prop :=
  ∃ A' c', e = .returned (.slice A' res.length c') ∧ w'.ownsRow base 5 1 (.slice A' res.length c') res.length (res.map bv) ∧ Keeps (Value.slice A n c).ownBlock.toList w w' ∧ ∀ x, (Value.slice A' res.length c').ownBlock = some x → x ∈ (Value.slice A n c).ownBlock.toList ∨ w.heap.size ≤ x
structure GrS (base : Nat) (A : Option Addr) (n c : Nat) (w wr : World) (A' : Option Addr) (m' c' : Nat) (res : Txt) : Prop where
  len : res.length = m'
  row : wr.ownsRow base 5 1 (.slice A' m' c') m' (res.map bv)
  keep : Keeps (Value.slice A n c).ownBlock.toList w wr
  blk : ∀ x, (Value.slice A' m' c').ownBlock = some x → x ∈ (Value.slice A n c).ownBlock.toList ∨ w.heap.size ≤ x
theorem GrS.step {base : Nat} {A : Option Addr} {n c : Nat} {w wr w8 : World} {A' A8 : Option Addr} {m' c' c8 : Nat} {res s : Txt} (H : GrS base A n c w wr A' m' c' res)
    (ho : w8.ownsRow base 5 1 (.slice A8 (m' + s.length) c8) (m' + s.length) ((res ++ s).map bv)) (hg : wr.grownBy w8 (Value.slice A' m' c').ownBlock) (hs : (Value.slice A8 (m' + s.length) c8).ownBlock = (Value.slice A' m' c').ownBlock ∨ (Value.slice A8 (m' + s.length) c8).ownBlock = some wr.heap.size) :
    GrS base A n c w w8 A8 (m' + s.length) c8 (res ++ s) := by
  have hz := H.keep.size
  refine ⟨by rw [List.length_append, H.len], ho, H.keep.trans (Keeps.of_grown (bs := (Value.slice A' m' c').ownBlock.toList) hg (fun x hx => .inl (by rw [hx]; simp))) (fun x hx => H.blk x (by simpa using hx)), fun x hx => ?_⟩
  rcases hs with h | h
  · rw [h] at hx
    exact H.blk x hx
  · rw [h] at hx
    injection hx with hx
    exact .inr (by omega)
theorem GrS.fin {base : Nat} {A : Option Addr} {n c : Nat} {w wr : World} {A' : Option Addr} {m' c' : Nat} {res : Txt} (H : GrS base A n c w wr A' m' c' res) : GrQ base A n c res w (.returned (.slice A' m' c')) wr := by
  obtain ⟨rfl, h1, h2, h3⟩ := H
  exact ⟨A', c', rfl, h1, h2, h3⟩
set_option maxHeartbeats 4000000 in
theorem growns8_is (base : Nat) (A : Option Addr) (n c : Nat) (xs : Txt) (C : Option Addr) (m d : Nat) (ss : List Txt) (w : World) (hr : w.ownsRow base 5 1 (.slice A n c) n (xs.map bv)) (hx : xs.length = n) (hm : m ≤ 1000000) (hS : ∀ X, Keeps (Value.slice A n c).ownBlock.toList w X → StrsIn X C m ss) (hb : xs.length + ss.flatten.length ≤ 1000000000) (hbase : base ≤ w.heap.size) :
    Calls Tryz.prog 200 #[.slice A n c, .slice C m d] w (GrQ base A n c (xs ++ ss.flatten) w) := by
  obtain ⟨iu, hiu, hzu0, hzu1, hzu2⟩ := info_parts u8_info8
  have HS := Lib.hid hS
  have HL : Hid (ss.length = m) := (hS w (Keeps.refl _ _)).1
  have HB := Lib.hid hb
  have HBA := Lib.hid hbase
  have HG0 : Hid (GrS base A n c w w A n c (xs ++ (ss.take 0).flatten)) := ⟨by simpa using hx, by simpa using hr, Keeps.refl _ _, fun x hx => .inl (by simpa using hx)⟩
  clear hr hS hb hbase
  go_enter Tryz.func200, Tryz.ntmps200
  go_wp2_with fail
  go_loopw [0, 9] (fun x i wr => ∃ (j : Nat) (A' : Option Addr) (m' c' : Nat), x = .slice A' m' c' ∧ i = .int .i64 (j : Int) ∧ j ≤ m ∧ Hid (GrS base A n c w wr A' m' c' (xs ++ (ss.take j).flatten))) (fun _ i _ => m - (intOf i).toNat)
  case atStart => exact ⟨0, A, n, c, rfl, rfl, Nat.zero_le _, HG0.out⟩
  case round =>
    obtain ⟨j, A', m', c', rfl, rfl, hj, HG⟩ := hrel
    have hz := HG.out.keep.size
    have hm' : m' ≤ 1000000000 := by
      have h1 := HG.out.len
      have h2 := flat_le (ss := ss) j
      have h3 := HB.out
      rw [List.length_append] at h1
      omega
    by_cases hlt : j < m
    · obtain ⟨s, hu⟩ : ∃ s, ss[j]? = some s := ⟨_, List.getElem?_eq_getElem (by have := HL.out; omega)⟩
      obtain ⟨hl, hp, hc9⟩ := HS.out wr HG.out.keep
      obtain ⟨b, o, hA9, hcc⟩ := hc9 (by omega)
      subst hA9
      have c0 := hcc j s hu
      unfold tv at c0
      clear hcc hp hl hc9
      have HFS := Lib.hid (flat_step hu)
      have hsl : m' + s.length ≤ 1000000000 := by
        have h1 := HG.out.len
        have h2 := flat_le (ss := ss) (j + 1)
        have h3 := HB.out
        rw [HFS.out] at h2
        rw [List.length_append] at h1 h2
        omega
      have hji : (j : Int) < (m : Int) := by omega
      have hj0 : (0 : Int) ≤ (j : Int) := by omega
      have HSZ : Hid (base ≤ wr.heap.size) := Nat.le_trans HBA.out hz
      clear hu
      go_wp2_with (at_builtin; refine append_str8 rfl (.tmp 13) (.tmp 14) 37 9 rfl base 5 iu Tryz.underlying37 Tryz.underlying9 hiu hzu0 hzu1 hzu2 A' m' c' _ s rfl HG.out.row rfl (by omega) HSZ.out ?_; intro A8 c8 w8 ho hg8 hs8; have HY : Hid (GrS base A n c w w8 A8 (m' + s.length) c8 (xs ++ (ss.take (j + 1)).flatten)) := (by show GrS _ _ _ _ _ _ _ _ _ _; rw [HFS.out, ← List.append_assoc]; exact HG.out.step ho hg8 hs8); clear ho hg8 hs8)
      go_roundw
      case rel => exact ⟨j + 1, A8, _, c8, rfl, by go_num, by omega, HY.out⟩
      case measure => simp [intOf]; omega
    · obtain rfl : j = m := by omega
      have h9 := HG.out
      rw [List.take_of_length_le (by rw [HL.out]; exact Nat.le_refl _)] at h9
      have H9 := Lib.hid h9
      clear h9
      go_wp2_with fail
      go_ret
      exact H9.out.fin
set_option maxHeartbeats 4000000 in
theorem grownb8_is (base : Nat) (A : Option Addr) (n c : Nat) (xs : Txt) (C : Option Addr) (m d : Nat) (ss : List Txt) (w : World) (hr : w.ownsRow base 5 1 (.slice A n c) n (xs.map bv)) (hx : xs.length = n) (hm : m ≤ 1000000) (hS : ∀ X, Keeps (Value.slice A n c).ownBlock.toList w X → TxsIn X C m ss) (hb : xs.length + ss.flatten.length ≤ 1000000000) (hbase : base ≤ w.heap.size) :
    Calls Tryz.prog 202 #[.slice A n c, .slice C m d] w (GrQ base A n c (xs ++ ss.flatten) w) := by
  obtain ⟨iu, hiu, hzu0, hzu1, hzu2⟩ := info_parts u8_info8
  have HS := Lib.hid hS
  have HL : Hid (ss.length = m) := (hS w (Keeps.refl _ _)).1
  have HB := Lib.hid hb
  have HBA := Lib.hid hbase
  have HG0 : Hid (GrS base A n c w w A n c (xs ++ (ss.take 0).flatten)) := ⟨by simpa using hx, by simpa using hr, Keeps.refl _ _, fun x hx => .inl (by simpa using hx)⟩
  clear hr hS hb hbase
  go_enter Tryz.func202, Tryz.ntmps202
  go_wp2_with fail
  go_loopw [0, 9] (fun x i wr => ∃ (j : Nat) (A' : Option Addr) (m' c' : Nat), x = .slice A' m' c' ∧ i = .int .i64 (j : Int) ∧ j ≤ m ∧ Hid (GrS base A n c w wr A' m' c' (xs ++ (ss.take j).flatten))) (fun _ i _ => m - (intOf i).toNat)
  case atStart => exact ⟨0, A, n, c, rfl, rfl, Nat.zero_le _, HG0.out⟩
  case round =>
    obtain ⟨j, A', m', c', rfl, rfl, hj, HG⟩ := hrel
    have hz := HG.out.keep.size
    have hm' : m' ≤ 1000000000 := by
      have h1 := HG.out.len
      have h2 := flat_le (ss := ss) j
      have h3 := HB.out
      rw [List.length_append] at h1
      omega
    by_cases hlt : j < m
    · obtain ⟨s, hu⟩ : ∃ s, ss[j]? = some s := ⟨_, List.getElem?_eq_getElem (by have := HL.out; omega)⟩
      obtain ⟨hl, hc9⟩ := HS.out wr HG.out.keep
      obtain ⟨b, o, hA9, hcc⟩ := hc9 (by omega)
      subst hA9
      obtain ⟨sA, sc, c0, hby⟩ := hcc j s hu
      have HSR := Lib.hid (Src.of_bytes hby)
      have hbv : ∀ u ∈ s.map bv, u.oneCell' = true := fun u hu => by
        obtain ⟨x, _, rfl⟩ := List.mem_map.1 hu
        rfl
      have HBV := Lib.hid hbv
      have HSL9 : Hid ((s.map bv).length = s.length * 1) := by show _ = _; simp
      clear hcc hl hc9 hby hbv
      have HFS := Lib.hid (flat_step hu)
      have hsl : m' + s.length ≤ 1000000000 := by
        have h1 := HG.out.len
        have h2 := flat_le (ss := ss) (j + 1)
        have h3 := HB.out
        rw [HFS.out] at h2
        rw [List.length_append] at h1 h2
        omega
      have hji : (j : Int) < (m : Int) := by omega
      have hj0 : (0 : Int) ≤ (j : Int) := by omega
      have HSZ : Hid (base ≤ wr.heap.size) := Nat.le_trans HBA.out hz
      clear hu
      go_wp2_with (at_builtin; refine wpList_append_opt rfl (.tmp 13) (.tmp 14) 37 rfl base 5 iu _ 1 1 Tryz.underlying37 hiu hzu0 hzu1 hzu2 rfl (by decide) (.slice A' m' c') m' _ rfl HG.out.row sA s.length sc (s.map bv) rfl HSL9.out HSR.out HBV.out (by unfold maxLen; omega) (by omega) HSZ.out ?_; intro v8 w8 ho hg8 hs8; obtain ⟨A8, c8, hv8⟩ := own_slice ho; subst hv8; have HY : Hid (GrS base A n c w w8 A8 (m' + s.length) c8 (xs ++ (ss.take (j + 1)).flatten)) := (by show GrS _ _ _ _ _ _ _ _ _ _; rw [HFS.out, ← List.append_assoc]; exact HG.out.step (by rw [List.map_append]; exact ho) hg8 hs8); clear ho hg8 hs8)
      go_roundw
      case rel => exact ⟨j + 1, A8, _, c8, rfl, by go_num, by omega, HY.out⟩
      case measure => simp [intOf]; omega
    · obtain rfl : j = m := by omega
      have h9 := HG.out
      rw [List.take_of_length_le (by rw [HL.out]; exact Nat.le_refl _)] at h9
      have H9 := Lib.hid h9
      clear h9
      go_wp2_with fail
      go_ret
      exact H9.out.fin
end Go.Proofs.YtbfebljahjmjfaaGreatDoor
/- filter: how a Value stands in a text; walked. -/
namespace Go.Proofs.YtbfebljahjmjfaaGreatDoor
open Go.RowKit Go.Shelf
set_option linter.unusedVariables false
set_option linter.unusedSimpArgs false
set_option maxRecDepth 100000

def hexT : Txt := [48, 49, 50, 51, 52, 53, 54, 55, 56, 57, 97, 98, 99, 100, 101, 102]
def hex1 (n : Nat) : UInt8 := (hexT[n]?).getD 0
/-- How a byte of a Value stands in a text. -/
def escV (c : UInt8) : Txt := if plainP c = true then [c] else [92, hex1 (c.toNat / 16), hex1 (c.toNat % 16)]
def valT (v : Txt) : Txt := v.flatMap escV
theorem valT_step {v : Txt} {j : Nat} {c : UInt8} (h : v[j]? = some c) : valT (v.take (j + 1)) = valT (v.take j) ++ escV c := by
  unfold valT
  rw [List.take_add_one, h, List.flatMap_append]
  simp
theorem escV_len (c : UInt8) : (escV c).length ≤ 3 := by
  unfold escV
  split <;> simp
theorem valT_len (v : Txt) : (valT v).length ≤ 3 * v.length := by
  induction v with
  | nil => simp [valT]
  | cons c r ih =>
    have h1 : valT (c :: r) = escV c ++ valT r := by unfold valT; simp
    have := escV_len c
    rw [h1, List.length_append, List.length_cons]
    omega
theorem str_at8 (xs : List UInt8) (j : Nat) (u : UInt8) (hu : xs[j]? = some u) (W : World) : (Instr.index 9 (.string ⟨xs.toArray⟩) (.int .u8 (j : Int))).run Tryz.prog W = .ok (.int .u8 (u.toNat : Int)) W := by
  obtain ⟨hj, rfl⟩ := List.getElem?_eq_some_iff.1 hu
  rw [run_index_string W 9 ⟨xs.toArray⟩ .u8 (j : Int) Tryz.underlying9, dif_pos (by simp [ByteArray.size]; exact hj)]
  rfl
theorem GrS.on {base : Nat} {A : Option Addr} {n c : Nat} {w wr w2 : World} {A' : Option Addr} {m' c' : Nat} {res : Txt} (H : GrS base A n c w wr A' m' c' res) (hk : Keeps [] wr w2) : GrS base A n c w w2 A' m' c' res :=
  ⟨H.len, own_keep H.row hk (by simp), H.keep.trans hk (by simp), H.blk⟩
theorem GrS.then {base : Nat} {A : Option Addr} {n c : Nat} {w wr V w' : World} {A' : Option Addr} {m' c' : Nat} {res res2 : Txt} {e : Ending} (H : GrS base A n c w wr A' m' c' res) (hk : Keeps [] wr V) (h : GrQ base A' m' c' res2 V e w') :
    ∃ A8 m8 c8, e = .returned (.slice A8 m8 c8) ∧ GrS base A n c w w' A8 m8 c8 res2 := by
  obtain ⟨A8, c8, rfl, h1, h2, h3⟩ := h
  have hz := H.keep.size
  have hz2 := hk.size
  refine ⟨A8, _, c8, rfl, rfl, h1, (H.keep.trans hk (by simp)).trans h2 (fun x hx => H.blk x (by simpa using hx)), fun x hx => ?_⟩
  rcases h3 x hx with h4 | h4
  · exact H.blk x (by simpa using h4)
  · exact .inr (by omega)
theorem one_txs (w : World) (a b c : UInt8) : ∀ bs X, (∀ x ∈ bs, x < w.heap.size) → Keeps bs ((w.alloc (.cells #[.int .u8 (a.toNat : Int), .int .u8 (b.toNat : Int), .int .u8 (c.toNat : Int)] 5)).alloc (.cells #[.slice (some ⟨w.heap.size, 0, none⟩) 3 3] 37)) X → TxsIn X (some ⟨w.heap.size + 1, 0, none⟩) 1 [[a, b, c]] := by
  intro bs X hbs hX
  have b1 := heap_new8 w (.cells #[.int .u8 (a.toNat : Int), .int .u8 (b.toNat : Int), .int .u8 (c.toNat : Int)] 5)
  have k2 : Keeps [] (w.alloc (.cells #[.int .u8 (a.toNat : Int), .int .u8 (b.toNat : Int), .int .u8 (c.toNat : Int)] 5)) ((w.alloc (.cells #[.int .u8 (a.toNat : Int), .int .u8 (b.toNat : Int), .int .u8 (c.toNat : Int)] 5)).alloc (.cells #[.slice (some ⟨w.heap.size, 0, none⟩) 3 3] 37)) := (Keeps.refl [] _).alloc _
  have b2 := heap_new8 (w.alloc (.cells #[.int .u8 (a.toNat : Int), .int .u8 (b.toNat : Int), .int .u8 (c.toNat : Int)] 5)) (.cells #[.slice (some ⟨w.heap.size, 0, none⟩) 3 3] 37)
  rw [World.size_alloc] at b2
  have h1 := blk_keep (blk_keep b1 k2 (by simp)) hX (fun hm => by have := hbs _ hm; omega)
  have h2 := blk_keep b2 hX (fun hm => by have := hbs _ hm; omega)
  refine ⟨rfl, fun _ => ⟨_, 0, rfl, fun i y hi => ?_⟩⟩
  cases i with
  | succ i => simp at hi
  | zero =>
    simp at hi
    subst hi
    refine ⟨some ⟨w.heap.size, 0, none⟩, 3, cell_of_blk h2 0, some ⟨w.heap.size, 0, none⟩, 3, rfl, by simp, by unfold maxLen; omega, fun _ => ⟨_, 0, rfl, fun i u hu => ?_⟩⟩
    rw [Nat.zero_add]
    match i, hu with
    | 0, hu => simp at hu; subst hu; exact cell_of_blk h1 0
    | 1, hu => simp at hu; subst hu; exact cell_of_blk h1 1
    | 2, hu => simp at hu; subst hu; exact cell_of_blk h1 2
theorem src_u8 (w : World) (u : UInt8) (t : TypeId) : Src (w.alloc (.cells #[.int .u8 (u.toNat : Int)] t)) (some ⟨w.heap.size, 0, none⟩) 1 [.int .u8 (u.toNat : Int)] := by
  refine ⟨(fun h => by cases h), fun ad hA j x hx => ?_⟩
  cases hA
  rw [add_at, Nat.zero_add, World.cell?_alloc_new]
  simpa using hx
theorem and15 (n : Nat) (h : n < 256) : bits BinOp.and IntKind.u8 (n : Int) 15 = (n : Int) % 16 := by
  have : ∀ i : Fin 256, bits BinOp.and IntKind.u8 (i.val : Int) 15 = (i.val : Int) % 16 := by decide +kernel
  exact this ⟨n, h⟩
theorem hex_at (k : Nat) (h : k < 16) : hexT[k]? = some (hex1 k) := by
  have : ∀ i : Fin 16, hexT[i.val]? = some (hex1 i.val) := by decide
  exact this ⟨k, h⟩
set_option maxHeartbeats 8000000 in
theorem valuetext_is (v : Txt) (w : World) (hv : v.length ≤ 100000000) :
    Calls Tryz.prog 201 #[tv v] w fun e w' => e = .returned (tv (valT v)) ∧ Keeps [] w w' := by
  obtain ⟨iu, hiu, hzu0, hzu1, hzu2⟩ := info_parts u8_info8
  obtain ⟨C, O, hcv, hcap, hrow⟩ := conv_row v (by omega)
  have HCV := Lib.hid hcv
  obtain ⟨n, hn⟩ : ∃ n, v.length = n := ⟨_, rfl⟩
  have HN := Lib.hid hn
  rw [hn] at hv hcv hrow
  have HRW := Lib.hid hrow
  have HIP := Lib.hid isplain8_is
  unfold tv
  clear hn hcap hrow
  go_enter Tryz.func201, Tryz.ntmps201
  go_wp2_with fail
  have HK1 : Hid (Keeps [] w (w.alloc (O w)).drew) := ((Keeps.refl [] w).alloc _).drew
  have HRB : Hid (RowB (w.alloc (O w)).drew w.heap.size n v) := by first | exact HRW.out w | simpa using HRW.out w
  have HZ1 : Hid (w.heap.size + 1 ≤ ((w.alloc (O w)).drew).heap.size) := by show _ ≤ _; simp
  generalize (w.alloc (O w)).drew = W1 at *
  obtain ⟨cc, hc⟩ : ∃ c, C w = c := ⟨_, rfl⟩
  rw [hc]
  clear hc
  go_loopw [3, 9] (fun x i wr => ∃ (j : Nat) (A' : Option Addr) (m' c' : Nat), x = .slice A' m' c' ∧ i = .int .i64 (j : Int) ∧ j ≤ n ∧ Hid (GrS (w.heap.size + 1) none 0 0 W1 wr A' m' c' (valT (v.take j)))) (fun _ i _ => n - (intOf i).toNat)
  case atStart => exact ⟨0, none, 0, 0, rfl, rfl, Nat.zero_le _, ⟨by simp [valT], by simpa [valT] using World.ownsRow_nil W1 (w.heap.size + 1) 5 1, Keeps.refl _ _, fun x hx => by cases hx⟩⟩
  case round =>
    obtain ⟨j, A', m', c', rfl, rfl, hj, HG⟩ := hrel
    have hkk : Keeps [] W1 wr := HG.out.keep
    have hm' : m' ≤ 300000000 := by
      have h1 := HG.out.len
      have h2 := valT_len (v.take j)
      have h3 := HN.out
      rw [List.length_take] at h2
      omega
    by_cases hlt : j < n
    · obtain ⟨u, hu⟩ : ∃ u, v[j]? = some u := ⟨_, List.getElem?_eq_getElem (by have := HN.out; omega)⟩
      have c0 := (hkk.cell (lt_of_cell (HRB.out.cell j u hu)) (by simp)).trans (HRB.out.cell j u hu)
      have HST := Lib.hid (valT_step hu)
      have HPU := Lib.hid (HIP.out u)
      have hji : (j : Int) < (n : Int) := by omega
      have hj0 : (0 : Int) ≤ (j : Int) := by omega
      obtain ⟨q, hq⟩ : ∃ q, plainP u = q := ⟨_, rfl⟩
      rw [hq] at HPU
      have HSZ : Hid (w.heap.size + 1 ≤ wr.heap.size) := Nat.le_trans HZ1.out hkk.size
      have hul : u.toNat < 256 := u.toNat_lt
      clear hu
      go_wp2_with fail
      refine (HPU.out _).mono ?_
      rintro e w3 ⟨rfl, rfl⟩
      cases q
      · have HES : Hid (escV u = [92, hex1 (u.toNat / 16), hex1 (u.toNat % 16)]) := by show _ = _; unfold escV; rw [hq]; rfl
        clear hq c0
        go_wp2_with fail
        obtain ⟨a1, ha1⟩ : ∃ a, hex1 (u.toNat / 16) = a := ⟨_, rfl⟩
        obtain ⟨a2, ha2⟩ : ∃ a, hex1 (u.toNat % 16) = a := ⟨_, rfl⟩
        have hx1 : hexT[u.toNat / 16]? = some a1 := by rw [← ha1]; exact hex_at _ (by omega)
        have hx2 : hexT[u.toNat % 16]? = some a2 := by rw [← ha2]; exact hex_at _ (by omega)
        have hix1 : ∀ W : World, (Instr.index 9 (.string ⟨#[48, 49, 50, 51, 52, 53, 54, 55, 56, 57, 97, 98, 99, 100, 101, 102]⟩) (.int .u8 ((u.toNat : Int) / 16))).run Tryz.prog W = .ok (.int .u8 (a1.toNat : Int)) W := fun W => by
          have h9 := str_at8 hexT _ _ hx1 W
          rw [show (((u.toNat / 16 : Nat)) : Int) = (u.toNat : Int) / 16 by omega] at h9
          exact h9
        have hix2 : ∀ W : World, (Instr.index 9 (.string ⟨#[48, 49, 50, 51, 52, 53, 54, 55, 56, 57, 97, 98, 99, 100, 101, 102]⟩) (.int .u8 ((u.toNat : Int) % 16))).run Tryz.prog W = .ok (.int .u8 (a2.toNat : Int)) W := fun W => by
          have h9 := str_at8 hexT _ _ hx2 W
          rw [show (((u.toNat % 16 : Nat)) : Int) = (u.toNat : Int) % 16 by omega] at h9
          exact h9
        have hand := and15 u.toNat hul
        rw [ha1, ha2] at HES
        clear ha1 ha2
        have HG2 := Lib.hid (HG.out.on ((Keeps.refl [] wr).drew))
        refine wp_region_held_drew (S := (fun X => True)) (by kernel_rfl) trivial ?_
        intro HS
        refine wpAnyH_take (i := 0) (v := .slice A' m' c') rfl (by kernel_rfl) (by kernel_rfl) (by kernel_rfl) (fun _ _ _ h => h) (Or.inl ⟨by kernel_rfl, ?_⟩) HS ?_
        · intro w5 hw5
          go_simp
        simp only [List.getElem_toArray, List.getElem_cons_succ, List.getElem_cons_zero, Act.put, List.setIfInBounds_toArray, List.set_cons_zero, List.set_cons_succ]
        refine wpAnyH_take (i := 1) (v := .int .u8 (u.toNat : Int)) rfl (by kernel_rfl) (by kernel_rfl) (by kernel_rfl) (fun _ _ _ h => h) (Or.inl ⟨by kernel_rfl, ?_⟩) HS ?_
        · intro w5 hw5
          go_simp
        simp only [List.getElem_toArray, List.getElem_cons_succ, List.getElem_cons_zero, Act.put, List.setIfInBounds_toArray, List.set_cons_zero, List.set_cons_succ]
        refine wpAnyH_take (i := 4) (v := .int .u8 (u.toNat : Int)) rfl (by kernel_rfl) (by kernel_rfl) (by kernel_rfl) (fun _ _ _ h => h) (Or.inl ⟨by kernel_rfl, ?_⟩) HS ?_
        · intro w5 hw5
          go_simp
        simp only [List.getElem_toArray, List.getElem_cons_succ, List.getElem_cons_zero, Act.put, List.setIfInBounds_toArray, List.set_cons_zero, List.set_cons_succ]
        refine wpAnyH_take (i := 2) (v := .int .u8 ((u.toNat : Int) / 16)) rfl (by kernel_rfl) (by kernel_rfl) (by kernel_rfl) (fun _ _ _ h => h) (Or.inl ⟨by kernel_rfl, ?_⟩) HS ?_
        · intro w5 hw5
          go_simp
        simp only [List.getElem_toArray, List.getElem_cons_succ, List.getElem_cons_zero, Act.put, List.setIfInBounds_toArray, List.set_cons_zero, List.set_cons_succ]
        refine wpAnyH_take (i := 5) (v := .int .u8 ((u.toNat : Int) % 16)) rfl (by kernel_rfl) (by kernel_rfl) (by kernel_rfl) (fun _ _ _ h => h) (Or.inl ⟨by kernel_rfl, ?_⟩) HS ?_
        · intro w5 hw5
          go_simp
        simp only [List.getElem_toArray, List.getElem_cons_succ, List.getElem_cons_zero, Act.put, List.setIfInBounds_toArray, List.set_cons_zero, List.set_cons_succ]
        refine wpAnyH_take (i := 3) (v := .int .u8 (a1.toNat : Int)) rfl (by kernel_rfl) (by kernel_rfl) (by kernel_rfl) (fun _ _ _ h => h) (Or.inl ⟨by kernel_rfl, ?_⟩) HS ?_
        · intro w5 hw5
          go_simp
        simp only [List.getElem_toArray, List.getElem_cons_succ, List.getElem_cons_zero, Act.put, List.setIfInBounds_toArray, List.set_cons_zero, List.set_cons_succ]
        refine wpAnyH_take (i := 6) (v := .int .u8 (a2.toNat : Int)) rfl (by kernel_rfl) (by kernel_rfl) (by kernel_rfl) (fun _ _ _ h => h) (Or.inl ⟨by kernel_rfl, ?_⟩) HS ?_
        · intro w5 hw5
          go_simp
        simp only [List.getElem_toArray, List.getElem_cons_succ, List.getElem_cons_zero, Act.put, List.setIfInBounds_toArray, List.set_cons_zero, List.set_cons_succ]
        refine wpAnyH_ready (rs := [7]) (by kernel_rfl) (by simp) ?_
        refine AllReadyH.cons rfl (fun K hK => ?_) AllReadyH.nil
        go_simp
        refine hK.out _ _ trivial (fun HS => ?_)
        clear hK K
        try simp only [List.getElem_toArray, List.getElem_cons_succ, List.getElem_cons_zero, Act.put, List.setIfInBounds_toArray, List.set_cons_zero, List.set_cons_succ]
        refine wpAnyH_ready (rs := [8]) (by kernel_rfl) (by simp) ?_
        refine AllReadyH.cons rfl (fun K hK => ?_) AllReadyH.nil
        go_simp
        refine hK.out _ _ trivial (fun HS => ?_)
        clear hK K
        try simp only [List.getElem_toArray, List.getElem_cons_succ, List.getElem_cons_zero, Act.put, List.setIfInBounds_toArray, List.set_cons_zero, List.set_cons_succ]
        refine wpAnyH_ready (rs := [9]) (by kernel_rfl) (by simp) ?_
        refine AllReadyH.cons rfl (fun K hK => ?_) AllReadyH.nil
        go_simp
        obtain ⟨V, hV⟩ : ∃ V, ((wr.alloc (.cells #[.int .u8 92, .int .u8 (a1.toNat : Int), .int .u8 (a2.toNat : Int)] 5)).alloc (.cells #[.slice (some ⟨wr.heap.size, 0, none⟩) 3 3] 37)).drew = V := ⟨_, rfl⟩
        have HKV : Hid (Keeps [] wr V) := by rw [← hV]; exact (((Keeps.refl [] wr).alloc _).alloc _).drew
        have HTV : Hid (∀ X, Keeps (Value.slice A' m' c').ownBlock.toList V X → TxsIn X (some ⟨wr.heap.size + 1, 0, none⟩) 1 [[92, a1, a2]]) := fun X hX => one_txs wr 92 a1 a2 (Value.slice A' m' c').ownBlock.toList X (fun x hx => (HG.out.row.lt x (by simpa using hx)).2) (by
          rw [← hV] at hX
          have k0 := (Keeps.refl (Value.slice A' m' c').ownBlock.toList ((wr.alloc (.cells #[.int .u8 92, .int .u8 (a1.toNat : Int), .int .u8 (a2.toNat : Int)] 5)).alloc (.cells #[.slice (some ⟨wr.heap.size, 0, none⟩) 3 3] 37))).drew
          exact k0.trans' hX)
        have HGB := Lib.hid (grownb8_is (w.heap.size + 1) A' m' c' (valT (v.take j)) (some ⟨wr.heap.size + 1, 0, none⟩) 1 1 [[92, a1, a2]] V (own_keep HG.out.row HKV.out (by simp)) HG.out.len (by omega) HTV.out (by have := HG.out.len; simp; omega) (Nat.le_trans HSZ.out HKV.out.size))
        rw [hV]
        refine HGB.out.mono ?_
        intro e w6 hq6
        obtain ⟨A8, m8, c8, rfl, hy⟩ := HG.out.then HKV.out hq6
        have HY : Hid (GrS (w.heap.size + 1) none 0 0 W1 w6 A8 m8 c8 (valT (v.take (j + 1)))) := by
          show GrS _ _ _ _ _ _ _ _ _ _
          rw [HST.out, HES.out]
          simpa using hy
        clear hq6 hy
        refine hK.out _ _ trivial (fun HS => ?_)
        clear hK K
        try simp only [List.getElem_toArray, List.getElem_cons_succ, List.getElem_cons_zero, Act.put, List.setIfInBounds_toArray, List.set_cons_zero, List.set_cons_succ]
        refine wpAnyH_take (i := 10) (v := .slice A8 m8 c8) rfl (by kernel_rfl) (by kernel_rfl) (by kernel_rfl) (fun _ _ _ h => h) (Or.inl ⟨by kernel_rfl, ?_⟩) HS ?_
        · intro w5 hw5
          go_simp
        simp only [List.getElem_toArray, List.getElem_cons_succ, List.getElem_cons_zero, Act.put, List.setIfInBounds_toArray, List.set_cons_zero, List.set_cons_succ]
        refine wpAnyH_done (by kernel_rfl) ?_ _
        go_wp2_with fail
        go_roundw
        case rel => exact ⟨j + 1, A8, m8, c8, rfl, by go_num, by omega, HY.out⟩
        case measure => simp [intOf]; omega
      · have HES : Hid (escV u = [u]) := by show _ = _; unfold escV; rw [hq]; rfl
        have HG2 := Lib.hid (HG.out.on ((Keeps.refl [] wr).alloc (.cells #[.int .u8 (u.toNat : Int)] 5)))
        have HSZ2 : Hid (w.heap.size + 1 ≤ (wr.alloc (.cells #[.int .u8 (u.toNat : Int)] 5)).heap.size) := Nat.le_trans HSZ.out (by simp)
        clear hq c0
        go_wp2_with (at_builtin; refine wpList_append_opt rfl (.tmp 15) (.tmp 17) 37 rfl (w.heap.size + 1) 5 iu _ 1 1 Tryz.underlying37 hiu hzu0 hzu1 hzu2 rfl (by decide) (.slice A' m' c') m' _ rfl HG2.out.row (some ⟨wr.heap.size, 0, none⟩) 1 1 [.int .u8 (u.toNat : Int)] rfl rfl (src_u8 wr u _) (by intro x hx; simp at hx; subst hx; rfl) (by unfold maxLen; omega) (by omega) HSZ2.out ?_; intro v8 w8 ho hg8 hs8; obtain ⟨A8, c8, hv8⟩ := own_slice ho; subst hv8; have HY : Hid (GrS (w.heap.size + 1) none 0 0 W1 w8 A8 (m' + 1) c8 (valT (v.take (j + 1)))) := (by show GrS _ _ _ _ _ _ _ _ _ _; rw [HST.out, HES.out]; exact HG2.out.step (s := [u]) (by rw [List.map_append]; exact ho) hg8 hs8); clear ho hg8 hs8)
        go_roundw
        case rel => exact ⟨j + 1, A8, _, c8, rfl, by go_num, by omega, HY.out⟩
        case measure => simp [intOf]; omega
    · obtain rfl : j = n := by omega
      have h9 := HG.out
      rw [List.take_of_length_le (by rw [HN.out]; exact Nat.le_refl _)] at h9
      obtain rfl := h9.len
      have hcv3 := conv_bytes (BytesAt.of_own h9.row)
      have HK9 := Lib.hid (HK1.out.trans' hkk)
      clear h9
      go_wp2_with fail
      go_ret
      exact ⟨rfl, HK9.out⟩
end Go.Proofs.YtbfebljahjmjfaaGreatDoor
/- filter: grown of texts, onto a row that bears the literal's mark; walked. -/
namespace Go.Proofs.YtbfebljahjmjfaaGreatDoor
open Go.RowKit Go.Shelf
set_option linter.unusedVariables false
set_option linter.unusedSimpArgs false
set_option maxRecDepth 100000

/-- An append of a text that does not fit: the row is a new one. -/
theorem append_new8 {P : Program} {w : World} {ops : Array Oper} {rest : List Oper} {o : Oper} {a : Act} {Q : Exit → Act → World → Prop} (hgd : o.guard = none) (sl x : Operand) (t u : TypeId)
    (ho : o.op = .call { callee := .builtin .append, args := #[sl, x], argTypes := #[t, u] })
    (base : Nat) (e : TypeId) (i : TypeInfo) (ht : P.underlying t = some (.slice e)) (hu : P.underlying u = some .string) (hi : P.info? e = some i) (hz : i.zero = some (.int .u8 0)) (hsize : i.size = 1) (hby : i.bytes = 1)
    (b : Addr) (n : Nat) (xs s : Txt) (hxl : xs.length = n) (hs : a.eval sl = .slice (some b) n n) (hcell : ∀ j v, (xs.map bv)[j]? = some v → w.cell? (b.add j) = some v) (hx : a.eval x = .string ⟨s.toArray⟩) (h0 : 0 < s.length) (hb : n + s.length ≤ 1000000000) (hbase : base ≤ w.heap.size)
    (h : ∀ A' c' w', w'.ownsRow base e 1 (.slice A' (n + s.length) c') (n + s.length) ((xs ++ s).map bv) → Keeps [] w w' → (Value.slice A' (n + s.length) c').ownBlock = some w.heap.size → wpList P ops Q rest (a.put o.dst (.slice A' (n + s.length) c')) w') : wpList P ops Q (o :: rest) a w := by
  have hss : (⟨s.toArray⟩ : ByteArray).size = s.length := rfl
  refine wpList_plain hgd fun K hK => ?_
  have hr := Lib.run_append_grow_string (P := P) w t u o.type e i (.int .u8 0) ht hu hi hz b n n (xs.map bv) (by rw [hsize, List.length_map]; omega) hcell ⟨s.toArray⟩ (by rw [hss]; omega) (by rw [hss]; omega) (by rw [hss, hby]; exact growslice_fits (by omega) (by omega))
  rw [hss, strCells8] at hr
  have hge := grownCap_ge w (n + s.length) n e
  have hcm : grownCap w (n + s.length) n e ≤ maxLen := grownCap_le_maxLen w (n + s.length) n e (by unfold maxLen; omega)
  have hrow : (w.drew.alloc (.cells ((xs.map bv).toArray ++ (s.map bv).toArray ++ Builtin.zeroCells (Value.int .u8 0).cells (grownCap w (n + s.length) n e - (n + s.length))) e)).ownsRow base e 1 (.slice (some ⟨w.heap.size, 0, none⟩) (n + s.length) (grownCap w (n + s.length) n e)) (n + s.length) ((xs ++ s).map bv) := by
    refine ⟨by simp; omega, .inr ⟨w.heap.size, _, _, rfl, hbase, heap_alloc_new w.drew _, hge, hcm, ?_, ?_⟩⟩
    · have hz1 : (Value.int IntKind.u8 0).cells.size = 1 := rfl
      simp only [Array.size_append, List.size_toArray, size_zeroCells, hz1, List.length_map]
      omega
    · simp only [Array.toList_append, List.map_append]
      have hl : (n + s.length) * 1 = (xs.map bv ++ s.map bv).length := by simp; omega
      rw [hl]
      exact List.take_left
  unfold Oper.wp execOp
  simp only [ho, resolve, invoke, builtin, Sem.run_bind, Sem.run_pure, Result.andThen_ok, List.map_toArray, List.map_cons, List.map_nil, hs, hx, hr]
  exact hK _ _ (h _ _ _ hrow (((Keeps.refl [] w).drew).alloc _) rfl)
set_option maxHeartbeats 4000000 in
theorem grownsm_is (base g : Nat) (xs : Txt) (n : Nat) (C : Option Addr) (m d : Nat) (s0 : Txt) (ss : List Txt) (w : World) (hcell : ∀ j v, (xs.map bv)[j]? = some v → w.cell? ⟨g, j, none⟩ = some v) (hx : xs.length = n) (hm : m ≤ 1000000) (h0 : 0 < s0.length) (hS : ∀ X, Keeps [] w X → StrsIn X C m (s0 :: ss)) (hb : xs.length + (s0 :: ss).flatten.length ≤ 1000000000) (hbase : base ≤ w.heap.size) :
    Calls Tryz.prog 200 #[.slice (some ⟨g, 0, none⟩) n n, .slice C m d] w (GrQ base none 0 0 (xs ++ (s0 :: ss).flatten) w) := by
  obtain ⟨iu, hiu, hzu0, hzu1, hzu2⟩ := info_parts u8_info8
  have HS := Lib.hid hS
  have HL : Hid ((s0 :: ss).length = m) := (hS w (Keeps.refl _ _)).1
  have HB := Lib.hid hb
  have HBA := Lib.hid hbase
  have HCE : Hid (∀ X, Keeps [] w X → ∀ j v, (xs.map bv)[j]? = some v → X.cell? ((⟨g, 0, none⟩ : Addr).add j) = some v) := fun X hX j v hv => by
    rw [add_at, Nat.zero_add]
    exact (hX.cell (lt_of_cell (hcell j v hv)) (by simp)).trans (hcell j v hv)
  have HX := Lib.hid hx
  have H0 := Lib.hid h0
  have hn9 : n ≤ 1000000000 := by omega
  clear hS hb hbase hcell hx h0
  go_enter Tryz.func200, Tryz.ntmps200
  go_wp2_with fail
  go_loopw [0, 9] (fun x i wr => ∃ (j : Nat) (A' : Option Addr) (m' c' : Nat), x = .slice A' m' c' ∧ i = .int .i64 (j : Int) ∧ j ≤ m ∧ Hid ((j = 0 ∧ A' = some ⟨g, 0, none⟩ ∧ m' = n ∧ c' = n ∧ Keeps [] w wr) ∨ (0 < j ∧ GrS base none 0 0 w wr A' m' c' (xs ++ ((s0 :: ss).take j).flatten)))) (fun _ i _ => m - (intOf i).toNat)
  case atStart => exact ⟨0, some ⟨g, 0, none⟩, n, n, rfl, rfl, Nat.zero_le _, .inl ⟨rfl, rfl, rfl, rfl, Keeps.refl _ _⟩⟩
  case round =>
    obtain ⟨j, A', m', c', rfl, rfl, hj, HQ⟩ := hrel
    have hkk : Keeps [] w wr := by
      rcases HQ.out with ⟨_, _, _, _, h⟩ | ⟨_, h⟩
      · exact h
      · exact h.keep
    have hz := hkk.size
    by_cases hlt : j < m
    · obtain ⟨s, hu⟩ : ∃ s, (s0 :: ss)[j]? = some s := ⟨_, List.getElem?_eq_getElem (by have := HL.out; omega)⟩
      obtain ⟨hl, hp, hc9⟩ := HS.out wr hkk
      obtain ⟨b, o, hA9, hcc⟩ := hc9 (by omega)
      subst hA9
      have c0 := hcc j s hu
      unfold tv at c0
      clear hcc hp hl hc9
      have HFS := Lib.hid (flat_step hu)
      have hji : (j : Int) < (m : Int) := by omega
      have hj0 : (0 : Int) ≤ (j : Int) := by omega
      have HSZ : Hid (base ≤ wr.heap.size) := Nat.le_trans HBA.out hz
      have hfl := flat_le (ss := s0 :: ss) (j + 1)
      rw [HFS.out, List.length_append] at hfl
      rcases HQ.out with ⟨rfl, rfl, rfl, rfl, _⟩ | ⟨hj1, HG⟩
      · obtain rfl : s0 = s := by simpa using hu
        rw [Nat.add_zero] at c0
        have hsl : c' + s0.length ≤ 1000000000 := by
          have h3 := HB.out
          have h1 := HX.out
          omega
        clear hu
        go_wp2_with (at_builtin; refine append_new8 rfl (.tmp 13) (.tmp 14) 37 9 rfl base 5 iu Tryz.underlying37 Tryz.underlying9 hiu hzu0 hzu1 hzu2 ⟨g, 0, none⟩ c' xs s0 HX.out rfl (HCE.out wr hkk) rfl H0.out (by omega) HSZ.out ?_; intro A8 c8 w8 ho hk8 hs8; have HY : Hid (GrS base none 0 0 w w8 A8 (c' + s0.length) c8 (xs ++ ((s0 :: ss).take (0 + 1)).flatten)) := (by refine ⟨by simp [HX.out], by simpa using ho, hkk.trans' hk8, fun x hx => ?_⟩; rw [hs8] at hx; injection hx with hx; exact .inr (by omega)); clear ho hk8 hs8)
        go_roundw
        case rel => exact ⟨1, A8, _, c8, rfl, by go_num, by omega, .inr ⟨by omega, HY.out⟩⟩
        case measure => simp [intOf]; omega
      · have hsl : m' + s.length ≤ 1000000000 := by
          have h1 := HG.len
          have h3 := HB.out
          rw [List.length_append] at h1
          omega
        have HG9 := Lib.hid HG
        clear hu HG
        go_wp2_with (at_builtin; refine append_str8 rfl (.tmp 13) (.tmp 14) 37 9 rfl base 5 iu Tryz.underlying37 Tryz.underlying9 hiu hzu0 hzu1 hzu2 A' m' c' _ s rfl HG9.out.row rfl (by omega) HSZ.out ?_; intro A8 c8 w8 ho hg8 hs8; have HY : Hid (GrS base none 0 0 w w8 A8 (m' + s.length) c8 (xs ++ ((s0 :: ss).take (j + 1)).flatten)) := (by show GrS _ _ _ _ _ _ _ _ _ _; rw [HFS.out, ← List.append_assoc]; exact HG9.out.step ho hg8 hs8); clear ho hg8 hs8)
        go_roundw
        case rel => exact ⟨j + 1, A8, _, c8, rfl, by go_num, by omega, .inr ⟨by omega, HY.out⟩⟩
        case measure => simp [intOf]; omega
    · obtain rfl : j = m := by omega
      have HG : GrS base none 0 0 w wr A' m' c' (xs ++ ((s0 :: ss).take j).flatten) := by
        rcases HQ.out with ⟨h1, _⟩ | ⟨_, h⟩
        · have := HL.out
          simp at this
          omega
        · exact h
      rw [List.take_of_length_le (by rw [HL.out]; exact Nat.le_refl _)] at HG
      have H9 := Lib.hid HG
      clear HG
      go_wp2_with fail
      go_ret
      exact H9.out.fin
end Go.Proofs.YtbfebljahjmjfaaGreatDoor
/- filter: the text of a filter with the texts of those in its Of; walked. -/
namespace Go.Proofs.YtbfebljahjmjfaaGreatDoor
open Go.RowKit Go.Shelf
set_option linter.unusedVariables false
set_option linter.unusedSimpArgs false
set_option maxRecDepth 100000

/-- What a text has ahead of those in Of. -/
def sgnT (k : Int) : Txt := if k = 1 then [38] else if k = 2 then [124] else [33]
def textK (k : Int) (s v : Txt) (of : List Txt) : Txt :=
  [40] ++ (if k = 4 then s ++ [61] ++ valT v else if k = 5 ∨ k = 6 then s ++ [61] ++ valT v ++ [42] else sgnT k ++ of.flatten) ++ [41]
/-- The signs in memory. -/
def SgnAt (w : World) : Prop := w.cell? ⟨0, 1, none⟩ = some (.string ⟨#[38]⟩) ∧ w.cell? ⟨0, 2, none⟩ = some (.string ⟨#[124]⟩) ∧ w.cell? ⟨0, 3, none⟩ = some (.string ⟨#[33]⟩)
theorem SgnAt.keep {w w' : World} (h : SgnAt w) (hk : Keeps [] w w') : SgnAt w' :=
  ⟨(hk.cell (lt_of_cell h.1) (by simp)).trans h.1, (hk.cell (lt_of_cell h.2.1) (by simp)).trans h.2.1, (hk.cell (lt_of_cell h.2.2) (by simp)).trans h.2.2⟩
theorem strs_lit8 (w : World) (ss : List Txt) (n : Nat) (cs : Array Value) (hc : cs = (ss.map tv).toArray) (hn : ss.length = n) (hl : ∀ s ∈ ss, s.length ≤ 9223372036854775807) : ∀ bs X, (∀ x ∈ bs, x < w.heap.size) → Keeps bs (w.alloc (.cells cs 9)) X → StrsIn X (some ⟨w.heap.size, 0, none⟩) n ss := by
  intro bs X hbs hX
  have h1 := blk_keep (heap_new8 w (.cells cs 9)) hX (fun hm => by have := hbs _ hm; omega)
  refine ⟨hn, hl, fun _ => ⟨_, 0, rfl, fun i s hi => ?_⟩⟩
  rw [Nat.zero_add]
  have h2 := cell_of_blk h1 i
  rw [hc] at h2
  simpa [hi] using h2
theorem TxsIn.grow {w w' : World} {C : Option Addr} {m : Nat} {ys : List Txt} (hk : Keeps [] w w') (h : TxsIn w C m ys) : TxsIn w' C m ys := by
  obtain ⟨h1, h2⟩ := h
  refine ⟨h1, fun hp => ?_⟩
  obtain ⟨b, o, e, hc⟩ := h2 hp
  refine ⟨b, o, e, fun i y hi => ?_⟩
  obtain ⟨A, c, h3, h4⟩ := hc i y hi
  exact ⟨A, c, (hk.cell (lt_of_cell h3) (by simp)).trans h3, h4.grow hk⟩
/-- How a text comes out: in new memory. -/
def TxtQ8 (res : Txt) (w : World) (e : Ending) (w' : World) : Prop :=
  ∃ A c, e = .returned (.slice A res.length c) ∧ w'.ownsRow w.heap.size 5 1 (.slice A res.length c) res.length (res.map bv) ∧ Keeps [] w w'
theorem GrQ.start {base : Nat} {res : Txt} {V w' : World} {e : Ending} (h : GrQ base none 0 0 res V e w') : ∃ A8 m8 c8, e = .returned (.slice A8 m8 c8) ∧ GrS base none 0 0 V w' A8 m8 c8 res := by
  obtain ⟨A8, c8, rfl, h1, h2, h3⟩ := h
  exact ⟨A8, _, c8, rfl, rfl, h1, h2, h3⟩
theorem GrS.ge {base : Nat} {w wr : World} {A' : Option Addr} {m' c' : Nat} {res : Txt} (H : GrS base none 0 0 w wr A' m' c' res) : ∀ x ∈ (Value.slice A' m' c').ownBlock.toList, w.heap.size ≤ x := fun x hx => by
  rcases H.blk x (Option.mem_toList.1 hx) with h | h
  · cases h
  · exact h
theorem GrS.len2 {base : Nat} {w wr : World} {A : Option Addr} {n c : Nat} {A' : Option Addr} {m' c' : Nat} {a b : UInt8} (H : GrS base A n c w wr A' m' c' ([a] ++ [[b]].flatten)) : m' = 2 := by rw [← H.len]; rfl
theorem GrS.len_le {base : Nat} {w wr : World} {A : Option Addr} {n c : Nat} {A' : Option Addr} {m' c' : Nat} {a b : UInt8} {ys : List Txt} (H : GrS base A n c w wr A' m' c' ([a] ++ [[b]].flatten ++ ys.flatten)) : ([a] ++ [[b]].flatten ++ ys.flatten).length = 2 + ys.flatten.length := by
  rw [List.length_append]
  rfl
set_option maxHeartbeats 16000000 in
theorem textwith_is (h : FH) (C : Option Addr) (m d : Nat) (ys : List Txt) (w : World) (hs : h.s.length ≤ 1000000) (hv : h.v.length ≤ 1000000) (hk1 : 1 ≤ h.k) (hk6 : h.k ≤ 6) (hne : 4 ≤ h.k → 0 < h.s.length) (hT : TxsIn w C m ys) (hm : m ≤ 1000000) (hb : ys.flatten.length ≤ 900000000) (hG : SgnAt w) :
    Calls Tryz.prog 131 #[h.val, .slice C m d] w (TxtQ8 (textK h.k h.s h.v ys) w) := by
  have HVT := Lib.hid (fun X => valuetext_is h.v X (by omega))
  have hvl := valT_len h.v
  have HT := Lib.hid hT
  have HG := Lib.hid hG
  have HNE := Lib.hid hne
  clear hne
  obtain ⟨k, B, lb, cb, s, v⟩ := h
  unfold FH.val tv at *
  dsimp only at *
  have HTK := Lib.hid (show textK k s v ys = [40] ++ (if k = 4 then s ++ [61] ++ valT v else if k = 5 ∨ k = 6 then s ++ [61] ++ valT v ++ [42] else sgnT k ++ ys.flatten) ++ [41] from rfl)
  generalize textK k s v ys = R at HTK ⊢
  generalize valT v = z at HVT hvl HTK
  have HB0 := Lib.hid (heap_new8 w (.cells #[.int .i64 k, .slice B lb cb, .string ⟨s.toArray⟩, .string ⟨v.toArray⟩] 26))
  have HK0 : Hid (Keeps [] w (w.alloc (.cells #[.int .i64 k, .slice B lb cb, .string ⟨s.toArray⟩, .string ⟨v.toArray⟩] 26))) := (Keeps.refl [] w).alloc _
  obtain ⟨W0, hW0⟩ : ∃ W0, w.alloc (.cells #[.int .i64 k, .slice B lb cb, .string ⟨s.toArray⟩, .string ⟨v.toArray⟩] 26) = W0 := ⟨_, rfl⟩
  have HW0 := Lib.hid hW0
  rw [hW0] at HB0 HK0
  have cv := fun C n c => Lib.run_convert_bytes_const W0 37 5 C n c Tryz.underlying37 Tryz.underlying5
  have HK1 : Hid (Keeps [] W0 (W0.alloc (.cells #[.int .u8 40] 5 (1, 2)))) := (Keeps.refl [] W0).alloc _
  have HSZ0 : Hid (w.heap.size ≤ W0.heap.size) := HK0.out.size
  have HB1 := Lib.hid (blk_keep HB0.out HK1.out (by simp))
  have hl0 : (W0.alloc (.cells #[.int .u8 40] 5 (1, 2))).cell? ⟨W0.heap.size, 0, none⟩ = some (.int .u8 40) := by
    have h9 := heap_new8 W0 (.cells #[.int .u8 40] 5 (1, 2))
    unfold World.cell?
    rw [h9]
    rfl
  have HL0 := Lib.hid hl0
  have HCL : Hid (∀ X, Keeps [] (W0.alloc (.cells #[.int .u8 40] 5 (1, 2))) X → ∀ j v, (([40] : Txt).map bv)[j]? = some v → X.cell? ⟨W0.heap.size, j, none⟩ = some v) := fun X hX j v hv => by
    cases j with
    | zero =>
      simp at hv
      subst hv
      exact (hX.cell (lt_of_cell HL0.out) (by simp)).trans HL0.out
    | succ j => simp at hv
  clear hl0
  have HFIN : Hid (∀ (V wr : World) (A' : Option Addr) (m' c' : Nat) (res : Txt), Keeps [] w V → GrS w.heap.size none 0 0 V wr A' m' c' res → res.length ≤ 999000000 → Calls Tryz.prog 200 #[.slice A' m' c', .slice (some ⟨wr.heap.size, 0, none⟩) 1 1] (wr.alloc (.cells #[.string ⟨#[41]⟩] 9)) fun e w' => TxtQ8 (res ++ [41]) w e w') := fun V wr A' m' c' res hkV hg hl => by
    have hg2 := hg.on ((Keeps.refl [] wr).alloc (.cells #[.string ⟨#[41]⟩] 9))
    refine (growns8_is w.heap.size A' m' c' res (some ⟨wr.heap.size, 0, none⟩) 1 1 [[41]] _ hg2.row hg2.len (by omega) (fun X hX => strs_lit8 wr [[41]] 1 _ rfl rfl (by simp) _ X (fun x hx => (hg.row.lt x (Option.mem_toList.1 hx)).2) hX) (by simp; omega) (Nat.le_trans hkV.size (Nat.le_trans hg.keep.size (by simp)))).mono ?_
    intro e w' hq
    obtain ⟨A8, m8, c8, rfl, hy⟩ := hg2.then (Keeps.refl _ _) hq
    have hy' : GrS w.heap.size none 0 0 V w' A8 m8 c8 (res ++ [41]) := by simpa using hy
    obtain ⟨h1, h2, h3, h4⟩ := hy'
    subst h1
    exact ⟨A8, c8, rfl, h2, hkV.trans' h3⟩
  obtain ⟨⟨f0, f1, f2, f3⟩, _⟩ := four_facts8 HB1.out
  clear hT hG
  by_cases h4 : k = 4
  · subst h4
    have HR : Hid (R = [40] ++ [s, [61], z].flatten ++ [41]) := by show _ = _; rw [HTK.out]; simp
    clear HTK
    go_enter Tryz.func131, Tryz.ntmps131
    go_wp2_with fail
    try rw [HW0.out]
    generalize W0.alloc (.cells #[.int .u8 40] 5 (1, 2)) = W1 at HK1 HL0 HCL HB1 f0 f1 f2 f3 ⊢
    refine wp_region_held_drew (S := (fun X => Keeps [] W0 X)) (by kernel_rfl) (HK1.out.drew) ?_
    intro HS
    refine wpAnyH_take (i := 0) (v := .slice (some ⟨W0.heap.size, 0, none⟩) 1 1) rfl (by kernel_rfl) (by kernel_rfl) (by kernel_rfl) (fun _ _ _ h => h) (Or.inl ⟨by kernel_rfl, ?_⟩) HS ?_
    · intro w5 hw5
      go_simp
    simp only [List.getElem_toArray, List.getElem_cons_succ, List.getElem_cons_zero, Act.put, List.setIfInBounds_toArray, List.set_cons_zero, List.set_cons_succ]
    refine wpAnyH_take (i := 1) (v := .pointer (some ⟨w.heap.size, 2, none⟩)) rfl (by kernel_rfl) (by kernel_rfl) (by kernel_rfl) (fun _ _ _ h => h) (Or.inl ⟨by kernel_rfl, ?_⟩) HS ?_
    · intro w5 hw5
      go_simp
    simp only [List.getElem_toArray, List.getElem_cons_succ, List.getElem_cons_zero, Act.put, List.setIfInBounds_toArray, List.set_cons_zero, List.set_cons_succ]
    refine wpAnyH_take (i := 2) (v := .string ⟨s.toArray⟩) rfl (by kernel_rfl) (by kernel_rfl) (by kernel_rfl) (fun _ _ _ h => h) (Or.inl ⟨by kernel_rfl, ?_⟩) HS ?_
    · intro w5 hw5
      obtain ⟨⟨d0, d1, d2, d3⟩, _⟩ := four_facts8 (blk_keep HB0.out hw5 (by simp))
      go_simp
    simp only [List.getElem_toArray, List.getElem_cons_succ, List.getElem_cons_zero, Act.put, List.setIfInBounds_toArray, List.set_cons_zero, List.set_cons_succ]
    refine wpAnyH_take (i := 3) (v := .pointer (some ⟨w.heap.size, 3, none⟩)) rfl (by kernel_rfl) (by kernel_rfl) (by kernel_rfl) (fun _ _ _ h => h) (Or.inl ⟨by kernel_rfl, ?_⟩) HS ?_
    · intro w5 hw5
      go_simp
    simp only [List.getElem_toArray, List.getElem_cons_succ, List.getElem_cons_zero, Act.put, List.setIfInBounds_toArray, List.set_cons_zero, List.set_cons_succ]
    refine wpAnyH_take (i := 4) (v := .string ⟨v.toArray⟩) rfl (by kernel_rfl) (by kernel_rfl) (by kernel_rfl) (fun _ _ _ h => h) (Or.inl ⟨by kernel_rfl, ?_⟩) HS ?_
    · intro w5 hw5
      obtain ⟨⟨d0, d1, d2, d3⟩, _⟩ := four_facts8 (blk_keep HB0.out hw5 (by simp))
      go_simp
    simp only [List.getElem_toArray, List.getElem_cons_succ, List.getElem_cons_zero, Act.put, List.setIfInBounds_toArray, List.set_cons_zero, List.set_cons_succ]
    refine wpAnyH_ready (rs := [5]) (by kernel_rfl) (by simp) ?_
    refine AllReadyH.cons rfl (fun K hK => ?_) AllReadyH.nil
    go_simp
    refine (HVT.out _).mono ?_
    rintro e w3 ⟨rfl, hk3⟩
    have HK3 := Lib.hid (((Keeps.refl [] W1).drew).trans' hk3)
    clear hk3
    refine hK.out _ _ (HK1.out.trans' HK3.out) (fun HS => ?_)
    clear hK K
    try simp only [List.getElem_toArray, List.getElem_cons_succ, List.getElem_cons_zero, Act.put, List.setIfInBounds_toArray, List.set_cons_zero, List.set_cons_succ]
    refine wpAnyH_ready (rs := [6]) (by kernel_rfl) (by simp) ?_
    refine AllReadyH.cons rfl (fun K hK => ?_) AllReadyH.nil
    go_simp
    refine hK.out _ _ ((HK1.out.trans' HK3.out).trans' (by first | exact (Keeps.refl [] w3).alloc _ | exact ((Keeps.refl [] w3).alloc _).drew)) (fun HS => ?_)
    clear hK K
    try simp only [List.getElem_toArray, List.getElem_cons_succ, List.getElem_cons_zero, Act.put, List.setIfInBounds_toArray, List.set_cons_zero, List.set_cons_succ]
    refine wpAnyH_ready (rs := [7]) (by kernel_rfl) (by simp) ?_
    refine AllReadyH.cons rfl (fun K hK => ?_) AllReadyH.nil
    go_simp
    obtain ⟨V, hV⟩ : ∃ V, w3.alloc (.cells #[.string ⟨s.toArray⟩, .string ⟨#[61]⟩, .string ⟨z.toArray⟩] 9) = V := ⟨_, rfl⟩
    have HKV : Hid (Keeps [] w3 V) := by rw [← hV]; exact (Keeps.refl [] w3).alloc _
    have HGB := Lib.hid (grownsm_is w.heap.size W0.heap.size [40] 1 (some ⟨w3.heap.size, 0, none⟩) 3 3 s [[61], z] V (HCL.out V (HK3.out.trans' HKV.out)) rfl (by omega) (HNE.out (by decide)) (fun X hX => strs_lit8 w3 [s, [61], z] 3 _ rfl rfl (by intro x hx; simp at hx; rcases hx with rfl | rfl | rfl <;> first | omega | decide | simp) [] X (by simp) (by
      rw [← hV] at hX
      exact hX)) (by simp; omega) (Nat.le_trans HSZ0.out (Nat.le_trans HK1.out.size (Nat.le_trans HK3.out.size HKV.out.size))))
    have HKW : Hid (Keeps [] w V) := HK0.out.trans' (HK1.out.trans' (HK3.out.trans' HKV.out))
    rw [hV]
    refine HGB.out.mono ?_
    intro e w6 hq6
    obtain ⟨A8, m8, c8, rfl, hy⟩ := hq6.start
    have HY := Lib.hid hy
    have hyl := hy.len
    clear hq6 hy
    refine hK.out _ _ ((HK1.out.trans' (HK3.out.trans' HKV.out)).trans' HY.out.keep) (fun HS => ?_)
    clear hK K
    try simp only [List.getElem_toArray, List.getElem_cons_succ, List.getElem_cons_zero, Act.put, List.setIfInBounds_toArray, List.set_cons_zero, List.set_cons_succ]
    refine wpAnyH_take (i := 8) (v := .slice A8 m8 c8) rfl (by kernel_rfl) (by kernel_rfl) (by kernel_rfl) (fun _ _ _ h => h) (Or.inl ⟨by kernel_rfl, ?_⟩) HS ?_
    · intro w5 hw5
      go_simp
    simp only [List.getElem_toArray, List.getElem_cons_succ, List.getElem_cons_zero, Act.put, List.setIfInBounds_toArray, List.set_cons_zero, List.set_cons_succ]
    refine wpAnyH_done (by kernel_rfl) ?_ _
    have HF := Lib.hid (HFIN.out V w6 A8 m8 c8 _ HKW.out HY.out (by rw [HY.out.len]; simp at hyl; omega))
    rw [← HR.out] at HF
    clear f0 f1 f2 f3
    go_wp2_with fail
    refine HF.out.mono ?_
    rintro e w9 ⟨A9, c9, rfl, hr9, hk9⟩
    have HX : Hid (TxtQ8 R w (.returned (.slice A9 R.length c9)) w9) := ⟨A9, c9, rfl, hr9, hk9⟩
    clear hr9 hk9
    generalize R.length = rl at HX ⊢
    go_wp2_with fail
    go_ret
    exact HX.out
  by_cases h56 : k = 5 ∨ k = 6
  · rcases h56 with rfl | rfl
    · have HR : Hid (R = [40] ++ [s, [61], z, [42]].flatten ++ [41]) := by show _ = _; rw [HTK.out]; simp
      clear HTK
      go_enter Tryz.func131, Tryz.ntmps131
      go_wp2_with fail
      try rw [HW0.out]
      generalize W0.alloc (.cells #[.int .u8 40] 5 (1, 2)) = W1 at HK1 HL0 HCL HB1 f0 f1 f2 f3 ⊢
      refine wp_region_held_drew (S := (fun X => Keeps [] W0 X)) (by kernel_rfl) (HK1.out.drew) ?_
      intro HS
      refine wpAnyH_take (i := 0) (v := .slice (some ⟨W0.heap.size, 0, none⟩) 1 1) rfl (by kernel_rfl) (by kernel_rfl) (by kernel_rfl) (fun _ _ _ h => h) (Or.inl ⟨by kernel_rfl, ?_⟩) HS ?_
      · intro w5 hw5
        go_simp
      simp only [List.getElem_toArray, List.getElem_cons_succ, List.getElem_cons_zero, Act.put, List.setIfInBounds_toArray, List.set_cons_zero, List.set_cons_succ]
      refine wpAnyH_take (i := 1) (v := .pointer (some ⟨w.heap.size, 2, none⟩)) rfl (by kernel_rfl) (by kernel_rfl) (by kernel_rfl) (fun _ _ _ h => h) (Or.inl ⟨by kernel_rfl, ?_⟩) HS ?_
      · intro w5 hw5
        go_simp
      simp only [List.getElem_toArray, List.getElem_cons_succ, List.getElem_cons_zero, Act.put, List.setIfInBounds_toArray, List.set_cons_zero, List.set_cons_succ]
      refine wpAnyH_take (i := 2) (v := .string ⟨s.toArray⟩) rfl (by kernel_rfl) (by kernel_rfl) (by kernel_rfl) (fun _ _ _ h => h) (Or.inl ⟨by kernel_rfl, ?_⟩) HS ?_
      · intro w5 hw5
        obtain ⟨⟨d0, d1, d2, d3⟩, _⟩ := four_facts8 (blk_keep HB0.out hw5 (by simp))
        go_simp
      simp only [List.getElem_toArray, List.getElem_cons_succ, List.getElem_cons_zero, Act.put, List.setIfInBounds_toArray, List.set_cons_zero, List.set_cons_succ]
      refine wpAnyH_take (i := 3) (v := .pointer (some ⟨w.heap.size, 3, none⟩)) rfl (by kernel_rfl) (by kernel_rfl) (by kernel_rfl) (fun _ _ _ h => h) (Or.inl ⟨by kernel_rfl, ?_⟩) HS ?_
      · intro w5 hw5
        go_simp
      simp only [List.getElem_toArray, List.getElem_cons_succ, List.getElem_cons_zero, Act.put, List.setIfInBounds_toArray, List.set_cons_zero, List.set_cons_succ]
      refine wpAnyH_take (i := 4) (v := .string ⟨v.toArray⟩) rfl (by kernel_rfl) (by kernel_rfl) (by kernel_rfl) (fun _ _ _ h => h) (Or.inl ⟨by kernel_rfl, ?_⟩) HS ?_
      · intro w5 hw5
        obtain ⟨⟨d0, d1, d2, d3⟩, _⟩ := four_facts8 (blk_keep HB0.out hw5 (by simp))
        go_simp
      simp only [List.getElem_toArray, List.getElem_cons_succ, List.getElem_cons_zero, Act.put, List.setIfInBounds_toArray, List.set_cons_zero, List.set_cons_succ]
      refine wpAnyH_ready (rs := [5]) (by kernel_rfl) (by simp) ?_
      refine AllReadyH.cons rfl (fun K hK => ?_) AllReadyH.nil
      go_simp
      refine (HVT.out _).mono ?_
      rintro e w3 ⟨rfl, hk3⟩
      have HK3 := Lib.hid (((Keeps.refl [] W1).drew).trans' hk3)
      clear hk3
      refine hK.out _ _ (HK1.out.trans' HK3.out) (fun HS => ?_)
      clear hK K
      try simp only [List.getElem_toArray, List.getElem_cons_succ, List.getElem_cons_zero, Act.put, List.setIfInBounds_toArray, List.set_cons_zero, List.set_cons_succ]
      refine wpAnyH_ready (rs := [6]) (by kernel_rfl) (by simp) ?_
      refine AllReadyH.cons rfl (fun K hK => ?_) AllReadyH.nil
      go_simp
      refine hK.out _ _ ((HK1.out.trans' HK3.out).trans' (by first | exact (Keeps.refl [] w3).alloc _ | exact ((Keeps.refl [] w3).alloc _).drew)) (fun HS => ?_)
      clear hK K
      try simp only [List.getElem_toArray, List.getElem_cons_succ, List.getElem_cons_zero, Act.put, List.setIfInBounds_toArray, List.set_cons_zero, List.set_cons_succ]
      refine wpAnyH_ready (rs := [7]) (by kernel_rfl) (by simp) ?_
      refine AllReadyH.cons rfl (fun K hK => ?_) AllReadyH.nil
      go_simp
      obtain ⟨V, hV⟩ : ∃ V, w3.alloc (.cells #[.string ⟨s.toArray⟩, .string ⟨#[61]⟩, .string ⟨z.toArray⟩, .string ⟨#[42]⟩] 9) = V := ⟨_, rfl⟩
      have HKV : Hid (Keeps [] w3 V) := by rw [← hV]; exact (Keeps.refl [] w3).alloc _
      have HGB := Lib.hid (grownsm_is w.heap.size W0.heap.size [40] 1 (some ⟨w3.heap.size, 0, none⟩) 4 4 s [[61], z, [42]] V (HCL.out V (HK3.out.trans' HKV.out)) rfl (by omega) (HNE.out (by decide)) (fun X hX => strs_lit8 w3 [s, [61], z, [42]] 4 _ rfl rfl (by intro x hx; simp at hx; rcases hx with rfl | rfl | rfl | rfl <;> first | omega | decide | simp) [] X (by simp) (by
        rw [← hV] at hX
        exact hX)) (by simp; omega) (Nat.le_trans HSZ0.out (Nat.le_trans HK1.out.size (Nat.le_trans HK3.out.size HKV.out.size))))
      have HKW : Hid (Keeps [] w V) := HK0.out.trans' (HK1.out.trans' (HK3.out.trans' HKV.out))
      rw [hV]
      refine HGB.out.mono ?_
      intro e w6 hq6
      obtain ⟨A8, m8, c8, rfl, hy⟩ := hq6.start
      have HY := Lib.hid hy
      have hyl := hy.len
      clear hq6 hy
      refine hK.out _ _ ((HK1.out.trans' (HK3.out.trans' HKV.out)).trans' HY.out.keep) (fun HS => ?_)
      clear hK K
      try simp only [List.getElem_toArray, List.getElem_cons_succ, List.getElem_cons_zero, Act.put, List.setIfInBounds_toArray, List.set_cons_zero, List.set_cons_succ]
      refine wpAnyH_take (i := 8) (v := .slice A8 m8 c8) rfl (by kernel_rfl) (by kernel_rfl) (by kernel_rfl) (fun _ _ _ h => h) (Or.inl ⟨by kernel_rfl, ?_⟩) HS ?_
      · intro w5 hw5
        go_simp
      simp only [List.getElem_toArray, List.getElem_cons_succ, List.getElem_cons_zero, Act.put, List.setIfInBounds_toArray, List.set_cons_zero, List.set_cons_succ]
      refine wpAnyH_done (by kernel_rfl) ?_ _
      have HF := Lib.hid (HFIN.out V w6 A8 m8 c8 _ HKW.out HY.out (by rw [HY.out.len]; simp at hyl; omega))
      rw [← HR.out] at HF
      clear f0 f1 f2 f3
      go_wp2_with fail
      refine HF.out.mono ?_
      rintro e w9 ⟨A9, c9, rfl, hr9, hk9⟩
      have HX : Hid (TxtQ8 R w (.returned (.slice A9 R.length c9)) w9) := ⟨A9, c9, rfl, hr9, hk9⟩
      clear hr9 hk9
      generalize R.length = rl at HX ⊢
      go_wp2_with fail
      go_ret
      exact HX.out
    · have HR : Hid (R = [40] ++ [s, [61], z, [42]].flatten ++ [41]) := by show _ = _; rw [HTK.out]; simp
      clear HTK
      go_enter Tryz.func131, Tryz.ntmps131
      go_wp2_with fail
      try rw [HW0.out]
      generalize W0.alloc (.cells #[.int .u8 40] 5 (1, 2)) = W1 at HK1 HL0 HCL HB1 f0 f1 f2 f3 ⊢
      refine wp_region_held_drew (S := (fun X => Keeps [] W0 X)) (by kernel_rfl) (HK1.out.drew) ?_
      intro HS
      refine wpAnyH_take (i := 0) (v := .slice (some ⟨W0.heap.size, 0, none⟩) 1 1) rfl (by kernel_rfl) (by kernel_rfl) (by kernel_rfl) (fun _ _ _ h => h) (Or.inl ⟨by kernel_rfl, ?_⟩) HS ?_
      · intro w5 hw5
        go_simp
      simp only [List.getElem_toArray, List.getElem_cons_succ, List.getElem_cons_zero, Act.put, List.setIfInBounds_toArray, List.set_cons_zero, List.set_cons_succ]
      refine wpAnyH_take (i := 1) (v := .pointer (some ⟨w.heap.size, 2, none⟩)) rfl (by kernel_rfl) (by kernel_rfl) (by kernel_rfl) (fun _ _ _ h => h) (Or.inl ⟨by kernel_rfl, ?_⟩) HS ?_
      · intro w5 hw5
        go_simp
      simp only [List.getElem_toArray, List.getElem_cons_succ, List.getElem_cons_zero, Act.put, List.setIfInBounds_toArray, List.set_cons_zero, List.set_cons_succ]
      refine wpAnyH_take (i := 2) (v := .string ⟨s.toArray⟩) rfl (by kernel_rfl) (by kernel_rfl) (by kernel_rfl) (fun _ _ _ h => h) (Or.inl ⟨by kernel_rfl, ?_⟩) HS ?_
      · intro w5 hw5
        obtain ⟨⟨d0, d1, d2, d3⟩, _⟩ := four_facts8 (blk_keep HB0.out hw5 (by simp))
        go_simp
      simp only [List.getElem_toArray, List.getElem_cons_succ, List.getElem_cons_zero, Act.put, List.setIfInBounds_toArray, List.set_cons_zero, List.set_cons_succ]
      refine wpAnyH_take (i := 3) (v := .pointer (some ⟨w.heap.size, 3, none⟩)) rfl (by kernel_rfl) (by kernel_rfl) (by kernel_rfl) (fun _ _ _ h => h) (Or.inl ⟨by kernel_rfl, ?_⟩) HS ?_
      · intro w5 hw5
        go_simp
      simp only [List.getElem_toArray, List.getElem_cons_succ, List.getElem_cons_zero, Act.put, List.setIfInBounds_toArray, List.set_cons_zero, List.set_cons_succ]
      refine wpAnyH_take (i := 4) (v := .string ⟨v.toArray⟩) rfl (by kernel_rfl) (by kernel_rfl) (by kernel_rfl) (fun _ _ _ h => h) (Or.inl ⟨by kernel_rfl, ?_⟩) HS ?_
      · intro w5 hw5
        obtain ⟨⟨d0, d1, d2, d3⟩, _⟩ := four_facts8 (blk_keep HB0.out hw5 (by simp))
        go_simp
      simp only [List.getElem_toArray, List.getElem_cons_succ, List.getElem_cons_zero, Act.put, List.setIfInBounds_toArray, List.set_cons_zero, List.set_cons_succ]
      refine wpAnyH_ready (rs := [5]) (by kernel_rfl) (by simp) ?_
      refine AllReadyH.cons rfl (fun K hK => ?_) AllReadyH.nil
      go_simp
      refine (HVT.out _).mono ?_
      rintro e w3 ⟨rfl, hk3⟩
      have HK3 := Lib.hid (((Keeps.refl [] W1).drew).trans' hk3)
      clear hk3
      refine hK.out _ _ (HK1.out.trans' HK3.out) (fun HS => ?_)
      clear hK K
      try simp only [List.getElem_toArray, List.getElem_cons_succ, List.getElem_cons_zero, Act.put, List.setIfInBounds_toArray, List.set_cons_zero, List.set_cons_succ]
      refine wpAnyH_ready (rs := [6]) (by kernel_rfl) (by simp) ?_
      refine AllReadyH.cons rfl (fun K hK => ?_) AllReadyH.nil
      go_simp
      refine hK.out _ _ ((HK1.out.trans' HK3.out).trans' (by first | exact (Keeps.refl [] w3).alloc _ | exact ((Keeps.refl [] w3).alloc _).drew)) (fun HS => ?_)
      clear hK K
      try simp only [List.getElem_toArray, List.getElem_cons_succ, List.getElem_cons_zero, Act.put, List.setIfInBounds_toArray, List.set_cons_zero, List.set_cons_succ]
      refine wpAnyH_ready (rs := [7]) (by kernel_rfl) (by simp) ?_
      refine AllReadyH.cons rfl (fun K hK => ?_) AllReadyH.nil
      go_simp
      obtain ⟨V, hV⟩ : ∃ V, w3.alloc (.cells #[.string ⟨s.toArray⟩, .string ⟨#[61]⟩, .string ⟨z.toArray⟩, .string ⟨#[42]⟩] 9) = V := ⟨_, rfl⟩
      have HKV : Hid (Keeps [] w3 V) := by rw [← hV]; exact (Keeps.refl [] w3).alloc _
      have HGB := Lib.hid (grownsm_is w.heap.size W0.heap.size [40] 1 (some ⟨w3.heap.size, 0, none⟩) 4 4 s [[61], z, [42]] V (HCL.out V (HK3.out.trans' HKV.out)) rfl (by omega) (HNE.out (by decide)) (fun X hX => strs_lit8 w3 [s, [61], z, [42]] 4 _ rfl rfl (by intro x hx; simp at hx; rcases hx with rfl | rfl | rfl | rfl <;> first | omega | decide | simp) [] X (by simp) (by
        rw [← hV] at hX
        exact hX)) (by simp; omega) (Nat.le_trans HSZ0.out (Nat.le_trans HK1.out.size (Nat.le_trans HK3.out.size HKV.out.size))))
      have HKW : Hid (Keeps [] w V) := HK0.out.trans' (HK1.out.trans' (HK3.out.trans' HKV.out))
      rw [hV]
      refine HGB.out.mono ?_
      intro e w6 hq6
      obtain ⟨A8, m8, c8, rfl, hy⟩ := hq6.start
      have HY := Lib.hid hy
      have hyl := hy.len
      clear hq6 hy
      refine hK.out _ _ ((HK1.out.trans' (HK3.out.trans' HKV.out)).trans' HY.out.keep) (fun HS => ?_)
      clear hK K
      try simp only [List.getElem_toArray, List.getElem_cons_succ, List.getElem_cons_zero, Act.put, List.setIfInBounds_toArray, List.set_cons_zero, List.set_cons_succ]
      refine wpAnyH_take (i := 8) (v := .slice A8 m8 c8) rfl (by kernel_rfl) (by kernel_rfl) (by kernel_rfl) (fun _ _ _ h => h) (Or.inl ⟨by kernel_rfl, ?_⟩) HS ?_
      · intro w5 hw5
        go_simp
      simp only [List.getElem_toArray, List.getElem_cons_succ, List.getElem_cons_zero, Act.put, List.setIfInBounds_toArray, List.set_cons_zero, List.set_cons_succ]
      refine wpAnyH_done (by kernel_rfl) ?_ _
      have HF := Lib.hid (HFIN.out V w6 A8 m8 c8 _ HKW.out HY.out (by rw [HY.out.len]; simp at hyl; omega))
      rw [← HR.out] at HF
      clear f0 f1 f2 f3
      go_wp2_with fail
      refine HF.out.mono ?_
      rintro e w9 ⟨A9, c9, rfl, hr9, hk9⟩
      have HX : Hid (TxtQ8 R w (.returned (.slice A9 R.length c9)) w9) := ⟨A9, c9, rfl, hr9, hk9⟩
      clear hr9 hk9
      generalize R.length = rl at HX ⊢
      go_wp2_with fail
      go_ret
      exact HX.out
  have hk3 : k = 1 ∨ k = 2 ∨ k = 3 := by omega
  rcases hk3 with rfl | rfl | rfl
  · have HR : Hid (R = [40] ++ [38] ++ ys.flatten ++ [41]) := by show _ = _; rw [HTK.out]; simp [sgnT]
    obtain ⟨g1, g2, g3⟩ := (HG.out.keep HK0.out).keep HK1.out
    clear HTK
    go_enter Tryz.func131, Tryz.ntmps131
    go_wp2_with fail
    try rw [HW0.out]
    have HZ1 : Hid ((W0.alloc (.cells #[.int .u8 40] 5 (1, 2))).heap.size = W0.heap.size + 1) := by show _ = _; simp
    generalize W0.alloc (.cells #[.int .u8 40] 5 (1, 2)) = W1 at HK1 HL0 HCL HB1 HZ1 f0 f1 f2 f3 g1 g2 g3 ⊢
    obtain ⟨V, hV⟩ : ∃ V, W1.alloc (.cells #[.string ⟨#[38]⟩] 9) = V := ⟨_, rfl⟩
    have HKV : Hid (Keeps [] W1 V) := by rw [← hV]; exact (Keeps.refl [] W1).alloc _
    have HGB := Lib.hid (grownsm_is w.heap.size W0.heap.size [40] 1 (some ⟨W1.heap.size, 0, none⟩) 1 1 [38] [] V (HCL.out V HKV.out) rfl (by omega) (by decide) (fun X hX => strs_lit8 W1 [[38]] 1 _ rfl rfl (by simp) [] X (by simp) (by
      rw [← hV] at hX
      exact hX)) (by simp) (Nat.le_trans HSZ0.out (Nat.le_trans HK1.out.size HKV.out.size)))
    have HKW : Hid (Keeps [] w V) := HK0.out.trans' (HK1.out.trans' HKV.out)
    rw [HZ1.out] at HGB
    rw [hV]
    refine HGB.out.mono ?_
    intro e w6 hq6
    obtain ⟨A8, m8, c8, rfl, hy⟩ := hq6.start
    have HY := Lib.hid hy
    have hge := hy.ge
    have hln := hy.len
    have hl2 := hy.len2
    have hgz := Nat.le_trans HKW.out.size hy.keep.size
    have HTX : Hid (∀ X, Keeps (Value.slice A8 m8 c8).ownBlock.toList w6 X → TxsIn X C m ys) := fun X hX => TxsIn.grow ((HKW.out.trans' hy.keep).trans hX (fun x hx => .inr (Nat.le_trans HKW.out.size (hge x hx)))) HT.out
    have HBB := Lib.hid (grownb8_is w.heap.size A8 m8 c8 ([40] ++ [[38]].flatten) C m d ys w6 hy.row hln hm HTX.out (by rw [hln]; omega) hgz)
    clear hq6 hy hge hln hl2 hgz f0 f1 f2 f3 g1 g2 g3
    go_wp2_with fail
    refine HBB.out.mono ?_
    intro e w7 hq7
    obtain ⟨A7, m7, c7, rfl, hy⟩ := HY.out.then (Keeps.refl _ _) hq7
    have HF := Lib.hid (HFIN.out V w7 A7 m7 c7 _ HKW.out hy (by rw [hy.len_le]; omega))
    rw [show (([40] ++ [[38]].flatten ++ ys.flatten ++ [41] : Txt)) = R by rw [HR.out]; simp] at HF
    clear hq7 hy
    go_wp2_with fail
    refine HF.out.mono ?_
    rintro e w9 ⟨A9, c9, rfl, hr9, hk9⟩
    have HX : Hid (TxtQ8 R w (.returned (.slice A9 R.length c9)) w9) := ⟨A9, c9, rfl, hr9, hk9⟩
    clear hr9 hk9
    generalize R.length = rl at HX ⊢
    go_wp2_with fail
    go_ret
    exact HX.out
  · have HR : Hid (R = [40] ++ [124] ++ ys.flatten ++ [41]) := by show _ = _; rw [HTK.out]; simp [sgnT]
    obtain ⟨g1, g2, g3⟩ := (HG.out.keep HK0.out).keep HK1.out
    clear HTK
    go_enter Tryz.func131, Tryz.ntmps131
    go_wp2_with fail
    try rw [HW0.out]
    have HZ1 : Hid ((W0.alloc (.cells #[.int .u8 40] 5 (1, 2))).heap.size = W0.heap.size + 1) := by show _ = _; simp
    generalize W0.alloc (.cells #[.int .u8 40] 5 (1, 2)) = W1 at HK1 HL0 HCL HB1 HZ1 f0 f1 f2 f3 g1 g2 g3 ⊢
    obtain ⟨V, hV⟩ : ∃ V, W1.alloc (.cells #[.string ⟨#[124]⟩] 9) = V := ⟨_, rfl⟩
    have HKV : Hid (Keeps [] W1 V) := by rw [← hV]; exact (Keeps.refl [] W1).alloc _
    have HGB := Lib.hid (grownsm_is w.heap.size W0.heap.size [40] 1 (some ⟨W1.heap.size, 0, none⟩) 1 1 [124] [] V (HCL.out V HKV.out) rfl (by omega) (by decide) (fun X hX => strs_lit8 W1 [[124]] 1 _ rfl rfl (by simp) [] X (by simp) (by
      rw [← hV] at hX
      exact hX)) (by simp) (Nat.le_trans HSZ0.out (Nat.le_trans HK1.out.size HKV.out.size)))
    have HKW : Hid (Keeps [] w V) := HK0.out.trans' (HK1.out.trans' HKV.out)
    rw [HZ1.out] at HGB
    rw [hV]
    refine HGB.out.mono ?_
    intro e w6 hq6
    obtain ⟨A8, m8, c8, rfl, hy⟩ := hq6.start
    have HY := Lib.hid hy
    have hge := hy.ge
    have hln := hy.len
    have hl2 := hy.len2
    have hgz := Nat.le_trans HKW.out.size hy.keep.size
    have HTX : Hid (∀ X, Keeps (Value.slice A8 m8 c8).ownBlock.toList w6 X → TxsIn X C m ys) := fun X hX => TxsIn.grow ((HKW.out.trans' hy.keep).trans hX (fun x hx => .inr (Nat.le_trans HKW.out.size (hge x hx)))) HT.out
    have HBB := Lib.hid (grownb8_is w.heap.size A8 m8 c8 ([40] ++ [[124]].flatten) C m d ys w6 hy.row hln hm HTX.out (by rw [hln]; omega) hgz)
    clear hq6 hy hge hln hl2 hgz f0 f1 f2 f3 g1 g2 g3
    go_wp2_with fail
    refine HBB.out.mono ?_
    intro e w7 hq7
    obtain ⟨A7, m7, c7, rfl, hy⟩ := HY.out.then (Keeps.refl _ _) hq7
    have HF := Lib.hid (HFIN.out V w7 A7 m7 c7 _ HKW.out hy (by rw [hy.len_le]; omega))
    rw [show (([40] ++ [[124]].flatten ++ ys.flatten ++ [41] : Txt)) = R by rw [HR.out]; simp] at HF
    clear hq7 hy
    go_wp2_with fail
    refine HF.out.mono ?_
    rintro e w9 ⟨A9, c9, rfl, hr9, hk9⟩
    have HX : Hid (TxtQ8 R w (.returned (.slice A9 R.length c9)) w9) := ⟨A9, c9, rfl, hr9, hk9⟩
    clear hr9 hk9
    generalize R.length = rl at HX ⊢
    go_wp2_with fail
    go_ret
    exact HX.out
  · have HR : Hid (R = [40] ++ [33] ++ ys.flatten ++ [41]) := by show _ = _; rw [HTK.out]; simp [sgnT]
    obtain ⟨g1, g2, g3⟩ := (HG.out.keep HK0.out).keep HK1.out
    clear HTK
    go_enter Tryz.func131, Tryz.ntmps131
    go_wp2_with fail
    try rw [HW0.out]
    have HZ1 : Hid ((W0.alloc (.cells #[.int .u8 40] 5 (1, 2))).heap.size = W0.heap.size + 1) := by show _ = _; simp
    generalize W0.alloc (.cells #[.int .u8 40] 5 (1, 2)) = W1 at HK1 HL0 HCL HB1 HZ1 f0 f1 f2 f3 g1 g2 g3 ⊢
    obtain ⟨V, hV⟩ : ∃ V, W1.alloc (.cells #[.string ⟨#[33]⟩] 9) = V := ⟨_, rfl⟩
    have HKV : Hid (Keeps [] W1 V) := by rw [← hV]; exact (Keeps.refl [] W1).alloc _
    have HGB := Lib.hid (grownsm_is w.heap.size W0.heap.size [40] 1 (some ⟨W1.heap.size, 0, none⟩) 1 1 [33] [] V (HCL.out V HKV.out) rfl (by omega) (by decide) (fun X hX => strs_lit8 W1 [[33]] 1 _ rfl rfl (by simp) [] X (by simp) (by
      rw [← hV] at hX
      exact hX)) (by simp) (Nat.le_trans HSZ0.out (Nat.le_trans HK1.out.size HKV.out.size)))
    have HKW : Hid (Keeps [] w V) := HK0.out.trans' (HK1.out.trans' HKV.out)
    rw [HZ1.out] at HGB
    rw [hV]
    refine HGB.out.mono ?_
    intro e w6 hq6
    obtain ⟨A8, m8, c8, rfl, hy⟩ := hq6.start
    have HY := Lib.hid hy
    have hge := hy.ge
    have hln := hy.len
    have hl2 := hy.len2
    have hgz := Nat.le_trans HKW.out.size hy.keep.size
    have HTX : Hid (∀ X, Keeps (Value.slice A8 m8 c8).ownBlock.toList w6 X → TxsIn X C m ys) := fun X hX => TxsIn.grow ((HKW.out.trans' hy.keep).trans hX (fun x hx => .inr (Nat.le_trans HKW.out.size (hge x hx)))) HT.out
    have HBB := Lib.hid (grownb8_is w.heap.size A8 m8 c8 ([40] ++ [[33]].flatten) C m d ys w6 hy.row hln hm HTX.out (by rw [hln]; omega) hgz)
    clear hq6 hy hge hln hl2 hgz f0 f1 f2 f3 g1 g2 g3
    go_wp2_with fail
    refine HBB.out.mono ?_
    intro e w7 hq7
    obtain ⟨A7, m7, c7, rfl, hy⟩ := HY.out.then (Keeps.refl _ _) hq7
    have HF := Lib.hid (HFIN.out V w7 A7 m7 c7 _ HKW.out hy (by rw [hy.len_le]; omega))
    rw [show (([40] ++ [[33]].flatten ++ ys.flatten ++ [41] : Txt)) = R by rw [HR.out]; simp] at HF
    clear hq7 hy
    go_wp2_with fail
    refine HF.out.mono ?_
    rintro e w9 ⟨A9, c9, rfl, hr9, hk9⟩
    have HX : Hid (TxtQ8 R w (.returned (.slice A9 R.length c9)) w9) := ⟨A9, c9, rfl, hr9, hk9⟩
    clear hr9 hk9
    generalize R.length = rl at HX ⊢
    go_wp2_with fail
    go_ret
    exact HX.out
end Go.Proofs.YtbfebljahjmjfaaGreatDoor
