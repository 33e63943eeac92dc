
/- entry: slices.Clone, Grow, Concat of texts; walked. -/
import Derived.Test.YtmgkejgmkfeccaaGreatDoorW7
namespace Go.Proofs.YtmgkejgmkfeccaaGreatDoor
open Go.RowKit Go.Shelf
set_option linter.unusedVariables false
set_option linter.unusedSimpArgs false
set_option maxRecDepth 100000

theorem tvs_cells (w : World) (A : Option Addr) (n : Nat) (l : List Txt) (o : Obj) (h : StrsIn w A n l) : Src (w.alloc o) A n (l.map tv) := (StrsIn.grow ((Keeps.refl [] w).alloc o) h).src
set_option maxHeartbeats 4000000 in
theorem clones_is (A : Option Addr) (n c : Nat) (l : List Txt) (w : World) (h : StrsIn w A n l) (hn : n ≤ 1000000) :
    Calls Tryz.prog 49 #[.slice A n c] w fun e w' => ∃ A' c', e = .returned (.slice A' n c') ∧ w'.ownsRow w.heap.size 9 1 (.slice A' n c') n (l.map tv) ∧ Keeps [] w w' := by
  obtain ⟨iu, hiu, hzu0, hzu1, hzu2⟩ := info_parts str_info7
  have HS := Lib.hid h.src
  have HSR := Lib.hid (fun o => tvs_cells w A n l o h)
  have HLL : Hid (l.length = n) := h.1
  have HL : Hid ((l.map tv).length = n * 1) := by show _ = _; rw [List.length_map, h.1, Nat.mul_one]
  have hq := fun (W : World) (a : Option Addr) (n c : Nat) => Lib.run_eql_slice_nil (P := Tryz.prog) W 40 9 a n c 0 0 Tryz.underlying40
  clear h
  rcases A with _ | ad
  · have hz : n = 0 := HS.out.1 rfl
    subst hz
    have hd : l = [] := List.length_eq_zero_iff.1 HLL.out
    subst hd
    go_enter Tryz.func49, Tryz.ntmps49
    go_wp2_with fail
    go_ret
    exact ⟨_, _, rfl, World.ownsRow_nil _ _ _ _, Keeps.refl _ _⟩
  · go_enter Tryz.func49, Tryz.ntmps49
    go_wp2_with (at_builtin; refine wpList_append_opt rfl (.tmp 5) (.tmp 6) 40 rfl w.heap.size 9 iu _ 1 16 Tryz.underlying40 hiu hzu0 hzu1 hzu2 rfl (by decide) (.slice (some ⟨w.heap.size, 0, none⟩) 0 0) 0 [] rfl (World.ownsRow_made w #[] 0 (Nat.le_refl _) (by unfold maxLen; omega) rfl) (some ad) n c (l.map tv) rfl HL.out (HSR.out _) (tvs_one l) (by unfold maxLen; omega) (by omega) (by simp) ?_; intro v1 w1 ho1 hg1 hs1; obtain ⟨A1, c1, hv1⟩ := own_slice ho1; subst hv1; have HG1 := Lib.hid (Keeps.trans ((Keeps.refl [] w).alloc (.cells #[] 9)) (Keeps.of_grown (bs := [w.heap.size]) hg1 (fun x hx => .inl (by simp [Value.ownBlock] at hx; simp [hx]))) (fun y hy => .inr (by rw [List.mem_singleton.1 hy]; exact Nat.le_refl _))); have HO1 : Hid (w1.ownsRow w.heap.size 9 1 (.slice A1 (0 + n) c1) (0 + n) (l.map tv)) := (by have h9 := ho1; rw [List.nil_append] at h9; exact h9); rw [Nat.zero_add] at HO1 ⊢; clear ho1 hg1 hs1)
    go_ret
    exact ⟨_, _, rfl, HO1.out, HG1.out⟩

theorem append_nil7 {P : Program} {w : World} (t u ty e : TypeId) (q : IntKind) (i : TypeInfo) (z c1 : Value) (ht : P.underlying t = some (.slice e)) (hu : P.underlying u = some (.int q)) (hi : P.info? e = some i) (hz : i.zero = some z)
    (hsize : i.size = 1) (hby : i.bytes = 16) (hzc : z.cells = #[c1]) (m : Nat) (h0 : 0 < m) (hm : m ≤ 1000000) :
    ∃ cap cs, (Builtin.append_ #[t, u] ty #[.slice none 0 0, .int .i64 (m : Int)]).run P w = .ok (.slice (some ⟨w.heap.size, 0, none⟩) m cap) (w.drew.alloc (.cells cs e)) ∧ m ≤ cap ∧ cap ≤ maxLen ∧ cs.size = cap * 1 := by
  have hwr : IntKind.i64.wrap (m : Int) = (m : Int) := IntWalk.i64_in _ (by omega)
  have hwr0 : IntKind.i64.wrap 0 = 0 := by decide
  have hm0 : ¬ ((m : Int) < 0) := by omega
  have hm48 : ¬ (281474976710656 < (m : Int) * 16) := by omega
  have hn : m ≠ 0 := by omega
  have h63' : ¬ (9223372036854775807 < (m : Int)) := by omega
  have h48' : ¬ (281474976710656 < Builtin.nextslicecap m 0 * 16) := by rw [nextslicecap_zero (by omega)]; omega
  have hge := grownCap_ge w m 0 e
  have hcm : grownCap w m 0 e ≤ maxLen := grownCap_le_maxLen w m 0 e (by unfold maxLen; omega)
  refine ⟨grownCap w m 0 e, Builtin.zeroCells #[c1] m ++ Builtin.zeroCells #[c1] (grownCap w m 0 e - m), ?_, hge, hcm, ?_⟩
  · simp [Builtin.append_, run_underlying ht, run_underlying hu, sizeOf, typeInfo, zeroValue, hi, hz, asInt, asIntOf, hwr, hwr0, hby, hsize, hm0, hm48, Builtin.lenOf, hn, h63', h48', Question.forced, run_firstCells_none, newRow, grownCap, hzc]
  · simp only [Array.size_append, size_zeroCells]
    simp
    omega
theorem wpList_append_nil7 {P : Program} {w : World} {ops : Array Oper} {rest : List Oper} {o : Oper} {a : Act} {Q : Exit → Act → World → Prop} (hgd : o.guard = none) (s x : Operand) (t u : TypeId)
    (ho : o.op = .call { callee := .builtin .append, args := #[s, x], argTypes := #[t, u] })
    (e : TypeId) (q : IntKind) (i : TypeInfo) (z c1 : Value) (ht : P.underlying t = some (.slice e)) (hu : P.underlying u = some (.int q)) (hi : P.info? e = some i) (hz : i.zero = some z)
    (hsize : i.size = 1) (hby : i.bytes = 16) (hzc : z.cells = #[c1]) (hs : a.eval s = .slice none 0 0) (m : Nat) (hx : a.eval x = .int .i64 (m : Int)) (h0 : 0 < m) (hm : m ≤ 1000000)
    (h : ∀ cap cs, m ≤ cap → cap ≤ maxLen → cs.size = cap * 1 → wpList P ops Q rest (a.put o.dst (.slice (some ⟨w.heap.size, 0, none⟩) m cap)) (w.drew.alloc (.cells cs e))) : wpList P ops Q (o :: rest) a w := by
  refine wpList_plain hgd fun K hK => ?_
  obtain ⟨cap, cs, hr, h2, h3, h4⟩ := append_nil7 (P := P) (w := w) t u o.type e q i z c1 ht hu hi hz hsize hby hzc m h0 hm
  unfold Oper.wp execOp
  simp only [ho, resolve, invoke, builtin, Sem.run_bind, Sem.run_pure, Result.andThen_ok, List.map_toArray, List.map_cons, List.map_nil, hs, hx, hr]
  exact hK _ _ (h cap cs h2 h3 h4)

set_option maxHeartbeats 4000000 in
theorem grows_is (n : Nat) (w : World) (hn : n ≤ 1000000) : Calls Tryz.prog 74 #[.slice none 0 0, .int .i64 (n : Int)] w fun e w' => ∃ A d, e = .returned (.slice A 0 d) ∧ w'.ownsRow w.heap.size 9 1 (.slice A 0 d) 0 [] ∧ Keeps [] w w' := by
  obtain ⟨iu, hiu, hzu0, hzu1, hzu2⟩ := info_parts str_info7
  have h0 : ¬ (n : Int) < 0 := by omega
  by_cases hz : n = 0
  · subst hz
    go_enter Tryz.func74, Tryz.ntmps74
    go_wp2_with fail
    go_ret
    exact ⟨_, _, rfl, World.ownsRow_nil _ _ _ _, Keeps.refl _ _⟩
  · have h1 : (0 : Int) < (n : Int) := by omega
    go_enter Tryz.func74, Tryz.ntmps74
    go_wp2_with (at_builtin; refine wpList_append_nil7 rfl (.tmp 20) (.tmp 21) 40 3 rfl 9 .i64 iu (.string ⟨#[]⟩) (.string ⟨#[]⟩) Tryz.underlying40 Tryz.underlying3 hiu hzu0 hzu1 hzu2 rfl rfl n rfl (by omega) (by omega) ?_; intro cap cs hc1 hc2 hc3; have HK : Hid (Keeps [] w (w.drew.alloc (.cells cs 9))) := ((Keeps.refl [] w).drew).alloc _; have HO : Hid ((w.drew.alloc (.cells cs 9)).ownsRow w.heap.size 9 1 (.slice (some ⟨w.heap.size, 0, none⟩) 0 cap) 0 []) := ⟨rfl, .inr ⟨w.heap.size, cap, cs, rfl, Nat.le_refl _, heap_alloc_new w.drew _, Nat.zero_le _, hc2, hc3, by simp⟩⟩)
    go_ret
    exact ⟨_, _, rfl, HO.out, HK.out⟩

/-- Rows of texts, one behind the other, as slices. -/
def RowsIn (w : World) (b : Nat) (l : List At7) : Prop := ∀ (j : Nat) (x : At7), l[j]? = some x → w.cell? ⟨b, j, none⟩ = some (.slice x.A x.n x.c) ∧ StrsIn w x.A x.n x.vs
theorem RowsIn.grow {w w' : World} {b : Nat} {l : List At7} (h : RowsIn w b l) (hk : Keeps [] w w') : RowsIn w' b l := fun j x hx => by
  obtain ⟨h1, h2⟩ := h j x hx
  exact ⟨(hk.cell (lt_of_cell h1) (by simp)).trans h1, StrsIn.grow hk h2⟩
def totS (l : List At7) : Nat := (l.map (·.n)).sum
def flatS (l : List At7) : List Txt := l.flatMap (·.vs)
theorem totS_next {l : List At7} {j : Nat} {m : At7} (h : l[j]? = some m) : totS (l.take (j + 1)) = totS (l.take j) + m.n ∧ flatS (l.take (j + 1)) = flatS (l.take j) ++ m.vs := by
  rw [List.take_add_one, h]
  simp [totS, flatS]
theorem totS_le : ∀ (l : List At7) (j : Nat), totS (l.take j) ≤ totS l
  | [], j => by simp
  | x :: r, 0 => by simp [totS]
  | x :: r, j + 1 => by
    have h := totS_le r j
    simp only [totS, List.take_succ_cons, List.map_cons, List.sum_cons] at *
    omega

set_option maxHeartbeats 4000000 in
theorem concats_is (b k : Nat) (l : List At7) (w : World) (hk : l.length = k) (hk2 : k ≤ 1000) (h : RowsIn w b l) (ht : totS l ≤ 1000000) :
    Calls Tryz.prog 51 #[.slice (some ⟨b, 0, none⟩) k k] w fun e w' => ∃ B d, e = .returned (.slice B (totS l) d) ∧ w'.ownsRow w.heap.size 9 1 (.slice B (totS l) d) (totS l) ((flatS l).map tv) ∧ Keeps [] w w' := by
  obtain ⟨iu, hiu, hzu0, hzu1, hzu2⟩ := info_parts str_info7
  have HL := Lib.hid h
  have HN := Lib.hid hk
  have HG := Lib.hid (grows_is (totS l) w ht)
  have HTT := Lib.hid ht
  clear h hk ht
  go_enter Tryz.func51, Tryz.ntmps51
  go_wp2_with fail
  go_loopw [3, 11] (fun s i wr => ∃ j : Nat, s = .int .i64 (totS (l.take j) : Nat) ∧ i = .int .i64 (j : Int) ∧ j ≤ k ∧ wr = w) (fun _ i _ => k - (intOf i).toNat)
  case atStart => exact ⟨0, rfl, rfl, Nat.zero_le _, rfl⟩
  case round =>
    obtain ⟨j, rfl, rfl, hj, rfl⟩ := hrel
    by_cases hlt : j < k
    · obtain ⟨x, hx⟩ : ∃ x, l[j]? = some x := ⟨_, List.getElem?_eq_getElem (by have := HN.out; omega)⟩
      obtain ⟨c0, hin⟩ := HL.out j x hx
      have hts := (totS_next hx).1
      have hle := totS_le l (j + 1)
      have htt := HTT.out
      obtain ⟨nm, A1, n1, c1, d1⟩ := x
      dsimp only at c0 hts
      obtain ⟨q, hq⟩ : ∃ q, totS (l.take j) = q := ⟨_, rfl⟩
      rw [hq] at hts ⊢
      have HTS := Lib.hid hts
      have hw64 : wrap64 ((q : Int) + (n1 : Int)) = (q : Int) + (n1 : Int) := by unfold wrap64; omega
      have hne : ¬ ((q : Int) + (n1 : Int)) < 0 := by omega
      clear hin hts hx hq hle htt
      go_wp2_with fail
      go_roundw
      case rel => exact ⟨j + 1, by rw [HTS.out]; congr 1, by go_num, by omega, trivial⟩
      case measure => simp [intOf]; omega
    · obtain rfl : j = k := by omega
      have htk : l.take j = l := List.take_of_length_le (by have := HN.out; omega)
      rw [htk]
      clear htk
      obtain ⟨T, hT⟩ : ∃ T, totS l = T := ⟨_, rfl⟩
      rw [hT] at HG ⊢
      have HT := Lib.hid hT
      clear hT
      go_wp2_with fail
      refine HG.out.mono ?_
      rintro e w1 ⟨GA, gd, rfl, ho, hk1⟩
      have HO := Lib.hid ho
      have HK1 := Lib.hid hk1
      clear ho hk1
      go_wp2_with fail
      obtain ⟨wo, rfl⟩ : ∃ wo : World, wo = wr := ⟨_, rfl⟩
      go_loopw [6, 27] (fun v i wq => ∃ (j2 q : Nat) (VA : Option Addr) (vc : Nat), v = .slice VA q vc ∧ i = .int .i64 (j2 : Int) ∧ j2 ≤ j ∧ Hid (q = totS (l.take j2)) ∧ Hid (wq.ownsRow wo.heap.size 9 1 (.slice VA q vc) q ((flatS (l.take j2)).map tv)) ∧ Hid (Keeps [] wo wq)) (fun _ i _ => j - (intOf i).toNat)
      case atStart => exact ⟨0, 0, GA, gd, rfl, rfl, Nat.zero_le _, rfl, HO.out, HK1.out⟩
      case round =>
        obtain ⟨j2, q, VA, vc, rfl, rfl, hj2, HQ, HOW, HKR⟩ := hrel
        by_cases hlt2 : j2 < j
        · obtain ⟨x, hx⟩ : ∃ x, l[j2]? = some x := ⟨_, List.getElem?_eq_getElem (by have := HN.out; omega)⟩
          obtain ⟨c0, hin⟩ := (HL.out.grow HKR.out) j2 x hx
          obtain ⟨hts, hfs⟩ := totS_next hx
          have hle := totS_le l (j2 + 1)
          have htt := HTT.out
          obtain ⟨nm, A1, n1, c1, d1⟩ := x
          dsimp only at c0 hts hfs hin
          rw [← HQ.out] at hts
          have HTS := Lib.hid hts
          have HFS := Lib.hid hfs
          have hbnd : q + n1 ≤ 1000000 := by omega
          have SB : Hid (Src wr A1 n1 (d1.map tv)) := hin.src
          have HDL : Hid ((d1.map tv).length = n1 * 1) := by show _ = _; rw [List.length_map, hin.1, Nat.mul_one]
          have hz := HKR.out.size
          clear hin hts hfs hx hle htt
          go_wp2_with (at_builtin; refine wpList_append_opt rfl (.tmp 31) (.tmp 32) 40 rfl wo.heap.size 9 iu _ 1 16 Tryz.underlying40 hiu hzu0 hzu1 hzu2 rfl (by decide) (.slice VA q vc) q ((flatS (l.take j2)).map tv) rfl HOW.out A1 n1 c1 (d1.map tv) rfl HDL.out SB.out (tvs_one d1) (by unfold maxLen; omega) (by omega) hz ?_; intro v2 w2 ho hg hs; rw [← List.map_append] at ho; obtain ⟨VB, vd, hv⟩ := own_slice ho; subst hv; have HO2 := Lib.hid ho; have HK2 := Lib.hid (keeps_own7 HOW.out HKR.out hg); clear ho hg hs)
          go_roundw
          case rel => exact ⟨j2 + 1, q + n1, VB, vd, rfl, by go_num, by omega, by show _ = _; rw [HTS.out], by show World.ownsRow _ _ _ _ _ _ _; rw [HFS.out]; exact HO2.out, HK2.out⟩
          case measure => simp [intOf]; omega
        · obtain rfl : j2 = j := by omega
          have htk : l.take j2 = l := List.take_of_length_le (by have := HN.out; omega)
          rw [htk] at HOW HQ
          have hqT : q = T := by rw [HQ.out, HT.out]
          subst hqT
          clear htk
          go_wp2_with fail
          go_ret
          rw [HT.out]
          exact ⟨_, _, rfl, HOW.out, HKR.out⟩
end Go.Proofs.YtmgkejgmkfeccaaGreatDoor
