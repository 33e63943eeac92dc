/- Texts of one proof, laid together: U48 U49. -/
import Derived.Test.YthgpjlmdllihmaaGreatM31
import Derived.Test.YthgpjlmdllihmaaGreatM25
import Derived.StillTactics
/- The document's set: a table with a change. -/
namespace Go.Proofs.YthgpjlmdllihmaaGreat
open Go.RowKit Go.Shelf Go.Maps
set_option linter.unusedVariables false
set_option linter.unusedSimpArgs false
set_option maxRecDepth 100000

/-- One pair of set's loop. -/
def stp (k v : List UInt8) (s : Tab × Bool) (p : List UInt8 × List UInt8) : Tab × Bool :=
  ((if s.2 = false ∧ bytesBefore p.1 k = false then s.1 ++ [(k, v)] else s.1) ++ (if p.1 = k then [] else [p]), s.2 || !bytesBefore p.1 k)
def setS (k v : List UInt8) (g : Bool) (T : Tab) : Tab × Bool := T.foldl (stp k v) ([], g)
def setE (k v : List UInt8) (s : Tab × Bool) : Tab := if s.2 then s.1 else s.1 ++ [(k, v)]

theorem setS_snoc (k v : List UInt8) (g : Bool) (T : Tab) (p : List UInt8 × List UInt8) : setS k v g (T ++ [p]) = stp k v (setS k v g T) p := by simp [setS]

theorem set_done (k v : List UInt8) : ∀ (T o : Tab), T.foldl (stp k v) (o, true) = (o ++ tdel T k, true)
  | [], o => by simp [tdel]
  | p :: r, o => by
    rw [List.foldl_cons]
    have e : stp k v (o, true) p = (o ++ (if p.1 = k then [] else [p]), true) := by simp [stp]
    rw [e, set_done k v r]
    by_cases h : p.1 = k
    · simp [tdel, h]
    · simp [tdel, h]

theorem tins_front {x : List UInt8 × List UInt8} : ∀ {T : Tab}, (∀ q ∈ T, bytesBefore x.1 q.1 = true) → tins x T = x :: T
  | [], _ => rfl
  | y :: r, h => by unfold tins; rw [if_pos (h y (by simp))]

theorem tins_skip {x y : List UInt8 × List UInt8} {r : Tab} (h : bytesBefore x.1 y.1 = false) : tins x (y :: r) = y :: tins x r := by
  rw [tins, if_neg (by rw [h]; decide)]

theorem set_open (k v : List UInt8) : ∀ (T o : Tab), Rising T → setE k v (T.foldl (stp k v) (o, false)) = o ++ tput T k v
  | [], o, _ => by simp [setE, tput, tdel, tins]
  | p :: r, o, hT => by
    rw [List.foldl_cons]
    obtain ⟨h1, h2⟩ := List.pairwise_cons.1 hT
    cases hb : bytesBefore p.1 k
    · have e : stp k v (o, false) p = (o ++ [(k, v)] ++ (if p.1 = k then [] else [p]), true) := by simp [stp, hb]
      rw [e, set_done]
      have hf : tins (k, v) (tdel (p :: r) k) = (k, v) :: tdel (p :: r) k := tins_front (fun q hq => by
        obtain ⟨q1, q2⟩ := List.mem_filter.1 hq
        have hqk : q.1 ≠ k := by simpa using q2
        have hpk : p.1 = k ∨ bytesBefore k p.1 = true := by
          by_cases h : p.1 = k
          · exact .inl h
          · rcases WideAt.bytes_total p.1 k h with h3 | h3
            · rw [hb] at h3; cases h3
            · exact .inr h3
        rcases List.mem_cons.1 q1 with rfl | q1
        · rcases hpk with h | h
          · exact absurd h hqk
          · exact h
        · rcases hpk with h | h
          · rw [← h]; exact h1 q q1
          · exact WideShapes.bytes_trans _ _ _ h (h1 q q1))
      unfold setE tput
      rw [hf]
      by_cases h : p.1 = k
      · simp [tdel, h]
      · simp [tdel, h]
    · have hpk : p.1 ≠ k := fun h => by rw [h, before_irrefl] at hb; cases hb
      have e : stp k v (o, false) p = (o ++ [p], false) := by simp [stp, hb, hpk]
      rw [e, set_open k v r _ h2]
      have ht : tdel (p :: r) k = p :: tdel r k := by simp [tdel, hpk]
      unfold tput
      rw [ht, tins_skip (before_asymm hb)]
      simp

theorem set_is_chg (T : Tab) (x : Chg) (hT : Rising T) : setE x.k x.v (setS x.k x.v x.g T) = chgT T x := by
  unfold setS chgT
  cases x.g
  · rw [set_open _ _ _ _ hT]; simp
  · rw [set_done]; simp [setE]

theorem less_before : ∀ a b : List UInt8, Op.bytesLess a b = bytesBefore a b
  | [], [] => rfl
  | [], _ :: _ => rfl
  | _ :: _, [] => rfl
  | a :: x, b :: y => by
    unfold Op.bytesLess bytesBefore
    rw [less_before x y]

theorem run_geq_sv (w : World) (t : TypeId) (a b : List UInt8) : (binOp .geq t (sv a) (sv b)).run Tryz.prog w = .ok (.bool (!bytesBefore a b)) w := by
  have e : (binOp .geq t (sv a) (sv b)) = pure (.bool (!Op.bytesLess (⟨a.toArray⟩ : ByteArray).toList (⟨b.toArray⟩ : ByteArray).toList)) := by simp [binOp, Op.stringOp]
  rw [e, ByteArray.toList_eq, ByteArray.toList_eq, less_before]
  rfl
theorem run_neq_sv (w : World) (t : TypeId) (a b : List UInt8) : (binOp .neq t (sv a) (sv b)).run Tryz.prog w = .ok (.bool (!decide (a = b))) w := by
  rw [binOp_string_neq, sv_eq]
  rfl

theorem setS_len (k v : List UInt8) (g : Bool) (T : Tab) : (setS k v g T).1.length ≤ 2 * T.length := by
  have : ∀ (T : Tab) (s : Tab × Bool), (T.foldl (stp k v) s).1.length ≤ s.1.length + 2 * T.length := by
    intro T
    induction T with
    | nil => intro s; simp
    | cons p r ih =>
      intro s
      rw [List.foldl_cons]
      have h := ih (stp k v s p)
      have h2 : (stp k v s p).1.length ≤ s.1.length + 2 := by
        unfold stp
        simp only [List.length_append]
        split <;> split <;> simp
      rw [List.length_cons]
      omega
  have := this T ([], g)
  unfold setS
  simpa using this

theorem pairCells_snoc (T : Tab) (p : List UInt8 × List UInt8) : pairCells (T ++ [p]) = pairCells T ++ [sv p.1, sv p.2] := by simp [pairCells]

end Go.Proofs.YthgpjlmdllihmaaGreat
/- set, walked. -/
namespace Go.Proofs.YthgpjlmdllihmaaGreat
open Go.RowKit Go.Shelf Go.Maps
set_option linter.unusedVariables false
set_option linter.unusedSimpArgs false
set_option maxRecDepth 100000

theorem still_on {P : Program} {ops : Array Oper} {w : World} {Q : Act → Prop} {rest : List Oper} {a a' : Act} {o : Oper} (hw : Region.wanted o (yielded ops a.tmps) = true) (ho : ∀ K : Act → Prop, K a' → o.still P a w K) (h : Hid (wpStill P ops w Q rest a')) : Hid (wpStill P ops w Q (o :: rest) a) :=
  wpStill_step fun K hK => by rw [if_pos hw]; exact ho K (hK _ h)
theorem still_off {P : Program} {ops : Array Oper} {w : World} {Q : Act → Prop} {rest : List Oper} {a : Act} {o : Oper} (hw : Region.wanted o (yielded ops a.tmps) = false) (h : Hid (wpStill P ops w Q rest (a.put o.dst undef))) : Hid (wpStill P ops w Q (o :: rest) a) :=
  wpStill_step fun K hK => by rw [if_neg (by rw [hw]; decide)]; exact hK _ h
theorem still_end {P : Program} {ops : Array Oper} {w : World} {Q : Act → Prop} {a : Act} (h : Q a) : Hid (wpStill P ops w Q [] a) := h
theorem region_Y {P : Program} {id : Nat} {Q : Exit → Act → World → Prop} {a : Act} {w : World} {l : List Oper} (hm : P.follows .mixedOrders = true) (hB : Region.lexB .any l.toArray = true)
    (h : ∀ Z : List Oper → Act → Prop, (∀ (o : Oper) (rest : List Oper) (a a' : Act), Region.wanted o (yielded l.toArray a.tmps) = true → (∀ K : Act → Prop, K a' → o.still P a w.drew K) → Z rest a' → Z (o :: rest) a) →
      (∀ (o : Oper) (rest : List Oper) (a : Act), Region.wanted o (yielded l.toArray a.tmps) = false → Z rest (a.put o.dst undef) → Z (o :: rest) a) → (∀ a, Q .normal a w.drew → Z [] a) → Z l a) : (Code.region id l.toArray true).wp P Q a w :=
  wp_region_still_lit hm hB (h (fun r a => wpStill P l.toArray w.drew (fun a' => Q .normal a' w.drew) r a) (fun o rest a a' h1 h2 h3 => still_on h1 h2 h3) (fun o rest a h1 h2 => still_off h1 h2) (fun a h1 => still_end h1))

set_option maxHeartbeats 2000000 in
theorem rset_is (A : Option Addr) (n c : Nat) (T : Tab) (x : Chg) (w : World) (hA : PrsAt w A n T) (hn : n ≤ 1000000) :
    Calls Tryz.prog 33 #[.slice A n c, x.val] w fun e w' => ∃ B m d, e = .returned (.slice B m d) ∧ w'.ownsRow w.heap.size 75 2 (.slice B m d) m (pairCells (setE x.k x.v (setS x.k x.v x.g T))) ∧ m = (setE x.k x.v (setS x.k x.v x.g T)).length ∧ Keeps [] w w' := by
  obtain ⟨k, v, g⟩ := x
  have hlA := hA.len
  obtain ⟨ip, hip, hp0, hp1, hp2⟩ := info_parts pair_info
  obtain ⟨W0, hW0⟩ : ∃ W0, w.alloc (.cells #[sv k, sv v, .bool g] 50) = W0 := ⟨_, rfl⟩
  have k0 : Keeps [] w W0 := by rw [← hW0]; exact (Keeps.refl [] w).alloc _
  have z0 : W0.heap.size = w.heap.size + 1 := by rw [← hW0]; simp
  have b0 : W0.heap[w.heap.size]? = some (.cells #[sv k, sv v, .bool g] 50 (0, 0)) := by rw [← hW0]; exact heap_alloc_new w _
  obtain ⟨⟨x0, x1, x2⟩, _⟩ := three_facts b0
  have HB := Lib.hid (fun X (hk : Keeps [] W0 X) => (three_facts (blk_keep b0 hk (by simp))).1)
  have HA := Lib.hid (hA.grow k0)
  have HK0 := Lib.hid k0
  have HG := Lib.hid (fun X t (a b : List UInt8) => run_geq_sv X t a b)
  clear hA k0 b0
  unfold Chg.val
  go_enter Tryz.func33, Tryz.ntmps33
  go_wp2_with fail
  go_loopw [5, 6, 7] (fun pv dn i wr => ∃ j : Nat, i = .int .i64 (j : Int) ∧ j ≤ n ∧ dn = .bool (setS k v g (T.take j)).2 ∧ Hid (wr.ownsRow W0.heap.size 75 2 pv (setS k v g (T.take j)).1.length (pairCells (setS k v g (T.take j)).1)) ∧ Hid (Keeps [] W0 wr)) (fun _ _ i _ => n - (intOf i).toNat)
  case atStart => exact ⟨0, rfl, Nat.zero_le _, rfl, World.ownsRow_nil _ _ _ _, Keeps.refl _ _⟩
  case round =>
    obtain ⟨j, rfl, hj, rfl, HPj, HKj⟩ := hrel
    obtain ⟨⟨y0, y1, y2⟩, _⟩ := And.intro (HB.out _ HKj.out) trivial
    by_cases hlt : j < n
    · have hx : T[j]? = some (T[j]'(by omega)) := List.getElem?_eq_getElem (by omega)
      have hlen := setS_len k v g (T.take j)
      have htl : (T.take j).length = j := by rw [List.length_take]; omega
      have htk : T.take (j + 1) = T.take j ++ [T[j]'(by omega)] := List.take_succ_eq_append_getElem (by omega)
      have hst := setS_snoc k v g (T.take j) (T[j]'(by omega))
      rw [← htk] at hst
      obtain ⟨b1, o1, rfl, a1, a2⟩ := (HA.out.grow HKj.out).at_ j _ hx
      generalize T[j]'(by omega) = p at *
      obtain ⟨pk, pv'⟩ := p
      have HST := Lib.hid hst
      have HX := Lib.hid hx
      clear hst hx htk
      generalize setS k v g (T.take j) = S at *
      obtain ⟨out, dn⟩ := S
      obtain ⟨PA, pc, rfl⟩ := own_slice HPj.out
      have hol : out.length ≤ 2000000 := by
        have h9 : out.length ≤ 2 * (T.take j).length := hlen
        omega
      have HPX : Hid (wr.drew.ownsRow W0.heap.size 75 2 (.slice PA out.length pc) out.length (pairCells out)) := own_keep HPj.out ((Keeps.refl [] wr).drew) (by simp)
      have HKX := Lib.hid HKj.out.drew
      obtain ⟨d0, d1, d2⟩ := HB.out _ HKX.out
      have e1 : wr.drew.cell? ⟨b1, o1 + j * 2, none⟩ = some (sv pk) := a1
      have e2 : wr.drew.cell? ⟨b1, o1 + j * 2 + 1, none⟩ = some (sv pv') := a2
      clear hlen htl
      have HE := Lib.hid (And.intro e1 (And.intro e2 (And.intro d0 (And.intro d1 d2))))
      clear e1 e2 d0 d1 d2
      cases dn
      · cases hb : bytesBefore pk k
        · have gq := HG.out wr.drew 9 pk k
          rw [hb] at gq
          go_wp2_with fail
          go_still_tail 10, (by kernel_rfl)
          change wpList _ _ _ _ _ wr.drew
          clear HPj HKj y0 y1 y2 a1 a2
          generalize wr.drew = X at *
          obtain ⟨e1, e2, d0, d1, d2⟩ := HE.out
          go_wp2_with (at_builtin; refine wpList_append_opt rfl (.tmp 28) (.tmp 34) 38 rfl W0.heap.size 75 ip _ 2 32 Tryz.underlying38 hip hp0 hp1 hp2 rfl (by decide) (.slice PA out.length pc) (out.length) (pairCells (out)) rfl (HPX.out.alloc _) (some ⟨X.heap.size, 0, none⟩) 1 1 [sv k, sv v] rfl rfl (src_twoS _ _ _ _) (by simp [Value.oneCell']) (by unfold maxLen; omega) (by omega) (by have := HKX.out.size; simp; omega) ?_; intro v6 w6 ho hg hs; have HO6 := Lib.hid ho; have HG6 := Lib.hid hg; clear ho hg hs)
          have hal := HPX.out.alloc (.cells #[sv k, sv v] 75)
          have hka := HKX.out.alloc (.cells #[sv k, sv v] 75)
          have KK6 := Lib.hid (keeps_ownS hal hka HG6.out)
          have HP7 : Hid (w6.drew.ownsRow W0.heap.size 75 2 v6 (out.length + 1) (pairCells out ++ [sv k, sv v])) := own_keep HO6.out ((Keeps.refl [] w6).drew) (by simp)
          have HK7 := Lib.hid KK6.out.drew
          obtain ⟨hx0, hx1, hx2⟩ := HB.out _ KK6.out
          obtain ⟨g1, g2⟩ : w6.cell? ⟨b1, o1 + j * 2, none⟩ = some (sv pk) ∧ w6.cell? ⟨b1, o1 + j * 2 + 1, none⟩ = some (sv pv') := by
            obtain ⟨b2, o2, hh, aa1, aa2⟩ := (HA.out.grow KK6.out).at_ j _ HX.out
            injection hh with hh
            injection hh with hh1 hh2
            subst hh1
            subst hh2
            exact ⟨aa1, aa2⟩
          have f1 : w6.drew.cell? ⟨b1, o1 + j * 2, none⟩ = some (sv pk) := g1
          have f2 : w6.drew.cell? ⟨b1, o1 + j * 2 + 1, none⟩ = some (sv pv') := g2
          have HG6' := HG6
          obtain ⟨QA, qc, rfl⟩ := own_slice HO6.out
          clear hal hka e1 e2 d0 d1 d2 HPX HKX gq HG6 HO6 KK6
          by_cases he : pk = k
          · subst he
            go_wp2_with fail
            go_still_tail 7, (by kernel_rfl)
            change wpList _ _ _ _ _ w6.drew
            clear g1 g2 f1 f2 hx0 hx1 hx2
            generalize w6.drew = Y at *
            go_wp2_with fail
            go_roundw
            case rel => exact ⟨j + 1, by go_num, by omega, by rw [HST.out]; simp [stp, hb], by show World.ownsRow _ _ _ _ _ _ _; rw [HST.out]; simpa [stp, hb, pairCells_snoc] using HP7.out, HK7.out⟩
            case measure => simp [intOf]; omega
          · have hpk' : (pk == k) = false := by simpa using he
            go_wp2_with fail
            go_still_tail 7, (by kernel_rfl)
            change wpList _ _ _ _ _ w6.drew
            clear g1 g2 hx0 hx1 hx2
            generalize w6.drew = Y at *
            have HP8 : Hid (Y.ownsRow W0.heap.size 75 2 (.slice QA (out.length + 1) qc) (out.length + 1) (pairCells (out ++ [(k, v)]))) := by
              show World.ownsRow _ _ _ _ _ _ _
              rw [pairCells_snoc]
              exact HP7.out
            go_wp2_with (at_builtin; refine wpList_append_opt rfl (.tmp 44) (.tmp 49) 38 rfl W0.heap.size 75 ip _ 2 32 Tryz.underlying38 hip hp0 hp1 hp2 rfl (by decide) (.slice QA (out.length + 1) qc) (out.length + 1) (pairCells (out ++ [(k, v)])) rfl (HP8.out.alloc _) (some ⟨Y.heap.size, 0, none⟩) 1 1 [sv pk, sv pv'] rfl rfl (src_twoS _ _ _ _) (by simp [Value.oneCell']) (by unfold maxLen; omega) (by omega) (by have := HK7.out.size; simp; omega) ?_; intro v8 w8 ho hg hs; have HO8 := Lib.hid ho; have HG8 := Lib.hid hg; clear ho hg hs)
            have hal := HP7.out.alloc (.cells #[sv pk, sv pv'] 75)
            have hka := HK7.out.alloc (.cells #[sv pk, sv pv'] 75)
            have KK8 := Lib.hid (keeps_ownS hal hka HG8.out)
            have h8 := HO8.out
            rw [← pairCells_snoc (T := out ++ [(k, v)]) (p := (pk, pv'))] at h8
            have HQ8 := Lib.hid h8
            clear h8
            go_roundw
            case rel => exact ⟨j + 1, by go_num, by omega, by rw [HST.out]; simp [stp, hb], by show World.ownsRow _ _ _ _ _ _ _; rw [HST.out]; simpa [stp, hb, he] using HQ8.out, KK8.out⟩
            case measure => simp [intOf]; omega
        · have hpk : ¬ pk = k := fun h => by rw [h, before_irrefl] at hb; cases hb
          have hpk' : (pk == k) = false := by simpa using hpk
          have gq := HG.out wr.drew 9 pk k
          rw [hb] at gq
          go_wp2_with fail
          go_still_tail 10, (by kernel_rfl)
          change wpList _ _ _ _ _ wr.drew
          clear HPj HKj y0 y1 y2 a1 a2
          generalize wr.drew = X at *
          obtain ⟨e1, e2, d0, d1, d2⟩ := HE.out
          go_wp2_with fail
          go_still_tail 7, (by kernel_rfl)
          change wpList _ _ _ _ _ X.drew
          have HPY : Hid (X.drew.ownsRow W0.heap.size 75 2 (.slice PA out.length pc) out.length (pairCells out)) := own_keep HPX.out ((Keeps.refl [] X).drew) (by simp)
          have HKY := Lib.hid HKX.out.drew
          have f1 : X.drew.cell? ⟨b1, o1 + j * 2, none⟩ = some (sv pk) := e1
          have f2 : X.drew.cell? ⟨b1, o1 + j * 2 + 1, none⟩ = some (sv pv') := e2
          clear e1 e2 d0 d1 d2 HPX HKX
          generalize X.drew = Y at *
          go_wp2_with (at_builtin; refine wpList_append_opt rfl (.tmp 44) (.tmp 49) 38 rfl W0.heap.size 75 ip _ 2 32 Tryz.underlying38 hip hp0 hp1 hp2 rfl (by decide) (.slice PA out.length pc) (out.length) (pairCells (out)) rfl (HPY.out.alloc _) (some ⟨Y.heap.size, 0, none⟩) 1 1 [sv pk, sv pv'] rfl rfl (src_twoS _ _ _ _) (by simp [Value.oneCell']) (by unfold maxLen; omega) (by omega) (by have := HKY.out.size; simp; omega) ?_; intro v6 w6 ho hg hs; have HO6 := Lib.hid ho; have HG6 := Lib.hid hg; clear ho hg hs)
          have hal := HPY.out.alloc (.cells #[sv pk, sv pv'] 75)
          have hka := HKY.out.alloc (.cells #[sv pk, sv pv'] 75)
          have KK6 := Lib.hid (keeps_ownS hal hka HG6.out)
          go_roundw
          case rel => exact ⟨j + 1, by go_num, by omega, by rw [HST.out]; simp [stp, hb], by show World.ownsRow _ _ _ _ _ _ _; rw [HST.out]; simpa [stp, hb, hpk, pairCells_snoc] using HO6.out, KK6.out⟩
          case measure => simp [intOf]; omega
      · go_wp2_with fail
        clear y0 y1 y2 a1 a2
        refine region_Y (by kernel_rfl) (by kernel_rfl) (fun Z hon hoff hend => ?_)
        refine hon _ _ _ ?A1 (by kernel_rfl) ?B1 ?C1
        case B1 =>
          intro K hK
          go_simp
          exact hK
        refine hon _ _ _ ?A2 (by kernel_rfl) ?B2 ?C2
        case B2 =>
          intro K hK
          go_simp
          exact hK
        refine hon _ _ _ ?A3 (by kernel_rfl) ?B3 ?C3
        case B3 =>
          intro K hK
          go_simp
          exact hK
        refine hoff _ _ _ (by kernel_rfl) ?_
        refine hoff _ _ _ (by kernel_rfl) ?_
        refine hoff _ _ _ (by kernel_rfl) ?_
        refine hoff _ _ _ (by kernel_rfl) ?_
        refine hoff _ _ _ (by kernel_rfl) ?_
        refine hoff _ _ _ (by kernel_rfl) ?_
        refine hoff _ _ _ (by kernel_rfl) ?_
        refine hoff _ _ _ (by kernel_rfl) ?_
        refine hon _ _ _ ?A4 (by kernel_rfl) ?B4 ?C4
        case B4 =>
          intro K hK
          go_simp
          exact hK
        refine hend _ ?_
        clear hon hoff hend Z HPj HKj
        change Exit.then _ _ _ _ wr.drew
        generalize wr.drew = X at *
        obtain ⟨e1, e2, d0, d1, d2⟩ := HE.out
        go_wp2_with fail
        by_cases he : pk = k
        · subst he
          go_still_tail 7, (by kernel_rfl)
          change wpList _ _ _ _ _ X.drew
          have HPY : Hid (X.drew.ownsRow W0.heap.size 75 2 (.slice PA out.length pc) out.length (pairCells out)) := own_keep HPX.out ((Keeps.refl [] X).drew) (by simp)
          have HKY := Lib.hid HKX.out.drew
          have f1 : X.drew.cell? ⟨b1, o1 + j * 2, none⟩ = some (sv pk) := e1
          have f2 : X.drew.cell? ⟨b1, o1 + j * 2 + 1, none⟩ = some (sv pv') := e2
          clear e1 e2 d0 d1 d2 HPX HKX
          generalize X.drew = Y at *
          go_wp2_with fail
          go_roundw
          case rel => exact ⟨j + 1, by go_num, by omega, by rw [HST.out]; simp [stp], by show World.ownsRow _ _ _ _ _ _ _; rw [HST.out]; simpa [stp] using HPY.out, HKY.out⟩
          case measure => simp [intOf]; omega
        · have hpk' : (pk == k) = false := by simpa using he
          go_still_tail 7, (by kernel_rfl)
          change wpList _ _ _ _ _ X.drew
          have HPY : Hid (X.drew.ownsRow W0.heap.size 75 2 (.slice PA out.length pc) out.length (pairCells out)) := own_keep HPX.out ((Keeps.refl [] X).drew) (by simp)
          have HKY := Lib.hid HKX.out.drew
          have f1 : X.drew.cell? ⟨b1, o1 + j * 2, none⟩ = some (sv pk) := e1
          have f2 : X.drew.cell? ⟨b1, o1 + j * 2 + 1, none⟩ = some (sv pv') := e2
          clear e1 e2 d0 d1 d2 HPX HKX
          generalize X.drew = Y at *
          go_wp2_with (at_builtin; refine wpList_append_opt rfl (.tmp 44) (.tmp 49) 38 rfl W0.heap.size 75 ip _ 2 32 Tryz.underlying38 hip hp0 hp1 hp2 rfl (by decide) (.slice PA out.length pc) (out.length) (pairCells (out)) rfl (HPY.out.alloc _) (some ⟨Y.heap.size, 0, none⟩) 1 1 [sv pk, sv pv'] rfl rfl (src_twoS _ _ _ _) (by simp [Value.oneCell']) (by unfold maxLen; omega) (by omega) (by have := HKY.out.size; simp; omega) ?_; intro v6 w6 ho hg hs; have HO6 := Lib.hid ho; have HG6 := Lib.hid hg; clear ho hg hs)
          have hal := HPY.out.alloc (.cells #[sv pk, sv pv'] 75)
          have hka := HKY.out.alloc (.cells #[sv pk, sv pv'] 75)
          have KK6 := Lib.hid (keeps_ownS hal hka HG6.out)
          go_roundw
          case rel => exact ⟨j + 1, by go_num, by omega, by rw [HST.out]; simp [stp], by show World.ownsRow _ _ _ _ _ _ _; rw [HST.out]; simpa [stp, he, pairCells_snoc] using HO6.out, KK6.out⟩
          case measure => simp [intOf]; omega
    · obtain rfl : j = n := by omega
      have htT : T.take j = T := List.take_of_length_le (by omega)
      rw [htT] at HPj
      rw [htT]
      have hsl := setS_len k v g T
      obtain ⟨out, dn, hS⟩ : ∃ out dn, setS k v g T = (out, dn) := ⟨_, _, rfl⟩
      rw [hS] at HPj hsl
      rw [hS]
      have HSS := Lib.hid hS
      clear hS
      have hol : out.length ≤ 2000000 := by
        have h9 : out.length ≤ 2 * T.length := hsl
        omega
      obtain ⟨PA, pc, rfl⟩ := own_slice HPj.out
      have hW0s : Hid (w.heap.size ≤ W0.heap.size) := by show _ ≤ _; omega
      clear hsl
      cases dn
      · have hal := HPj.out.alloc (.cells #[sv k, sv v] 75)
        have hka := HKj.out.alloc (.cells #[sv k, sv v] 75)
        have HAL := Lib.hid hal
        have HKA := Lib.hid hka
        clear hal hka
        go_wp2_with (at_builtin; refine wpList_append_opt rfl (.tmp 53) (.tmp 59) 38 rfl W0.heap.size 75 ip _ 2 32 Tryz.underlying38 hip hp0 hp1 hp2 rfl (by decide) (.slice PA out.length pc) (out.length) (pairCells (out)) rfl HAL.out (some ⟨wr.heap.size, 0, none⟩) 1 1 [sv k, sv v] rfl rfl (src_twoS _ _ _ _) (by simp [Value.oneCell']) (by unfold maxLen; omega) (by omega) (by have := HKj.out.size; simp; omega) ?_; intro v6 w6 ho hg hs; have HO6 := Lib.hid ho; have HG6 := Lib.hid hg; clear ho hg hs)
        obtain ⟨QA, qc, rfl⟩ := own_slice HO6.out
        go_ret
        have h6 := HO6.out
        rw [← pairCells_snoc (T := out) (p := (k, v))] at h6
        exact ⟨QA, out.length + 1, qc, rfl, (by rw [HSS.out]; exact h6.mono hW0s.out), by rw [HSS.out]; simp [setE], HK0.out.trans' (keeps_ownS HAL.out HKA.out HG6.out)⟩
      · go_wp2_with fail
        go_ret
        exact ⟨PA, out.length, pc, rfl, (by rw [HSS.out]; exact HPj.out.mono hW0s.out), by rw [HSS.out]; simp [setE], HK0.out.trans' HKj.out⟩

end Go.Proofs.YthgpjlmdllihmaaGreat
