/- Texts of one proof, laid together: W8 W9. -/
import Derived.Test.YtebocagkpkpghaaGreatDoorM77
import Derived.Test.YtebocagkpkpghaaGreatDoorM73
/- entry: Order; walked. -/
namespace Go.Proofs.YtebocagkpkpghaaGreatDoor
open Go.RowKit Go.Shelf
set_option linter.unusedVariables false
set_option linter.unusedSimpArgs false
set_option maxRecDepth 100000

/-- The names for which attributes tell Values, rising. -/
def keysE (e : List Att) : List Txt := ordS ((e.map fun a => smallL a.1).filter fun k => !(gath e k).isEmpty)
/-- Attributes put in order. -/
def ordE (e : List Att) : List Att := (keysE e).map fun k => (k, ordS (gath e k))
def anyLong (e : List Att) : Bool := e.any fun a => longN e.length a.2.length
/-- What Order answers: an entry, an error. -/
def orderP (e : List Att) : List Att × Nat :=
  if e.all (fun a => maybeA a.1 a.2) = true then (if anyLong (ordE e) = true then ([], 3) else (ordE e, 0)) else ([], 2)
theorem gath_in {e : List Att} {k : Txt} (h : gath e k ≠ []) : k ∈ e.map fun a => smallL a.1 := by
  unfold gath at h
  cases hf : e.filter (fun a => smallL a.1 == k) with
  | nil => rw [hf] at h; exact absurd rfl h
  | cons a r =>
    have ha : a ∈ e.filter (fun a => smallL a.1 == k) := by rw [hf]; simp
    obtain ⟨h1, h2⟩ := List.mem_filter.1 ha
    rw [List.mem_map]
    exact ⟨a, h1, by simpa using h2⟩
theorem TabOf.vs {w : World} {b base : Nat} {T : List At7} {e : List Att} (h : TabOf w b base T e) {a : At7} (ha : a ∈ T) : a.vs = gath e a.name := by
  rw [← h.con a.name]
  unfold cont
  rw [aget_some h.tab.rise ha]
  rfl
theorem TabOf.ent {w : World} {b base : Nat} {T : List At7} {e : List Att} (h : TabOf w b base T e) : tEnt T = ordE e := by
  have hr : Rise (T.map At7.name) := by
    unfold Rise
    rw [List.pairwise_map]
    exact h.tab.rise
  have hk : T.map At7.name = keysE e := by
    refine rise_same hr (ordS_is _).1 (fun k => ?_)
    unfold keysE
    rw [(ordS_is _).2, List.mem_filter, List.mem_map]
    constructor
    · rintro ⟨a, ha, rfl⟩
      have h1 := h.vs ha
      have h2 := (h.tab.rows a ha).2
      have h3 := (h.tab.rows a ha).1.len
      have h4 : gath e a.name ≠ [] := fun e' => by rw [← h1] at e'; rw [e'] at h3; simp at h3; omega
      refine ⟨gath_in h4, ?_⟩
      cases hg : gath e a.name with
      | nil => exact absurd hg h4
      | cons x r => rfl
    · rintro ⟨_, hg⟩
      have hg2 : gath e k ≠ [] := fun e' => by rw [e'] at hg; simp at hg
      rw [← h.con k] at hg2
      unfold cont at hg2
      cases ha : aget T k with
      | none => rw [ha] at hg2; exact absurd rfl hg2
      | some a =>
        obtain ⟨h1, h2⟩ := aget_mem ha
        exact ⟨a, h1, h2⟩
  unfold ordE tEnt
  rw [← hk, List.map_map]
  refine List.map_congr_left (fun a ha => ?_)
  show (a.name, ordS a.vs) = (a.name, ordS (gath e a.name))
  rw [h.vs ha]
/-- What a call answers that makes an entry: it, in new memory, and an error. -/
def EnrQ (p : List Att × Nat) (w : World) (e : Ending) (w' : World) : Prop :=
  ∃ A n c, e = .returned (.tuple #[.slice A n c, .int .i64 (p.2 : Int)]) ∧ EntQ p.1 w A n c w' ∧ Keeps [] w w'
theorem EntQ.nil (w w' : World) : EntQ [] w none 0 0 w' := ⟨[], rfl, ⟨rfl, by simp, fun h => by omega⟩, Nat.le_refl _, by omega, by simp⟩
theorem EnrQ.no {n : Nat} {w w' : World} (h : Keeps [] w w') : EnrQ ([], n) w (.returned (.tuple #[.slice none 0 0, .int .i64 (n : Int)])) w' := ⟨none, 0, 0, rfl, EntQ.nil w w', h⟩

theorem any_take7 {α : Type} {xs : List α} {p : α → Bool} {j : Nat} {u : α} (hu : xs[j]? = some u) : (xs.take (j + 1)).any p = ((xs.take j).any p || p u) := by
  rw [List.take_add_one, hu, List.any_append]
  simp
theorem any_yes7 {α : Type} {xs : List α} {p : α → Bool} {j : Nat} {u : α} (hu : xs[j]? = some u) (h : p u = true) : xs.any p = true := by
  rw [List.any_eq_true]
  exact ⟨u, List.mem_of_getElem? hu, h⟩
set_option maxHeartbeats 8000000 in
theorem order_is (A : Option Addr) (n c : Nat) (l : List At7) (w : World) (h : EntIn w A n l) (hf : Few7 1000 l) :
    Calls Tryz.prog 17 #[.slice A n c] w (EnrQ (orderP (ents l)) w) := by
  have HD := Lib.hid h
  have HF := Lib.hid hf
  have hn : n ≤ 1000 := by rw [← h.1]; exact hf.1
  have HEL : Hid ((ents l).length = n) := by show _ = _; rw [ents_len, h.1]
  have HTO := Lib.hid (fun X (hX : Keeps [] w X) => tableof_is A n c l X (EntIn.grow hX h) hf)
  have HGL : Hid (∀ k, (gath (ents l) k).length ≤ 1000000) := fun k => by
    have h1 := gath_len (e := ents l) (m := 1000) (fun a ha => by
      unfold ents at ha
      obtain ⟨x, hx, rfl⟩ := List.mem_map.1 ha
      show x.vs.length ≤ 1000
      rw [(h.2.1 x hx).2.2.2.1]
      exact hf.2 x hx) k
    rw [HEL.out] at h1
    have h2 : n * 1000 ≤ 1000 * 1000 := Nat.mul_le_mul_right _ hn
    omega
  obtain ⟨P, hP⟩ : ∃ P, orderP (ents l) = P := ⟨_, rfl⟩
  rw [hP]
  have HP := Lib.hid hP
  clear h hf hP
  go_enter Tryz.func17, Tryz.ntmps17
  go_wp2_with fail
  refine wp_scope_once 0 rfl ?_
  go_wp2_with fail
  go_loopw [12] (fun i wr => ∃ j : Nat, i = .int .i64 (j : Int) ∧ j ≤ n ∧ Hid (((ents l).take j).all (fun a => maybeA a.1 a.2) = true) ∧ Hid (Keeps [] w wr)) (fun i _ => n - (intOf i).toNat)
  case atStart => exact ⟨0, rfl, Nat.zero_le _, rfl, Keeps.refl _ _⟩
  case round =>
    obtain ⟨j, rfl, hj, HA, HKR⟩ := hrel
    by_cases hlt : j < n
    · obtain ⟨hl, hp, hc9⟩ := EntIn.grow HKR.out HD.out
      obtain ⟨b, o, hA9, hcc⟩ := hc9 (by omega)
      clear hc9
      subst hA9
      obtain ⟨a, hu⟩ : ∃ a, l[j]? = some a := ⟨_, List.getElem?_eq_getElem (by omega)⟩
      obtain ⟨c0, c1⟩ := hcc j a hu
      have hfit := hp a (List.mem_of_getElem? hu)
      have hue := ents_at hu
      have HT := Lib.hid (all_take7 (p := fun a : Att => maybeA a.1 a.2) hue)
      have HC := Lib.hid (fun h => all_cut7 (p := fun a : Att => maybeA a.1 a.2) hue h)
      obtain ⟨nm, aA, an, ac, avs⟩ := a
      obtain ⟨hnm, hnc, hac, hV⟩ := hfit
      dsimp only at c0 c1 hnm hV
      have HMB := Lib.hid (fun X (hX : Keeps [] wr X) => maybe7_is nm aA an ac avs X hnm (StrsIn.grow hX hV) (Nat.le_trans hnc hac))
      obtain ⟨q, hq⟩ : ∃ q, maybeA nm avs = q := ⟨_, rfl⟩
      unfold At7.att at HT HC
      dsimp only at HT HC
      rw [hq] at HT HC HMB
      unfold tv at c0
      have hji : (j : Int) < (n : Int) := by omega
      have HK4 : Hid (Keeps [] wr (wr.alloc (.cells #[.string ⟨nm.toArray⟩, .slice aA an ac] 59))) := (Keeps.refl [] wr).alloc _
      obtain ⟨⟨d0, d1⟩, _⟩ := blk2 (heap_new8 wr (.cells #[.string ⟨nm.toArray⟩, .slice aA an ac] 59))
      obtain ⟨w4, hw4⟩ : ∃ w4, wr.alloc (.cells #[.string ⟨nm.toArray⟩, .slice aA an ac] 59) = w4 := ⟨_, rfl⟩
      rw [hw4] at HK4 d0 d1
      clear hcc hu hue hp hl hq hV hnm hnc hac
      go_wp2_with fail
      refine (HMB.out _ HK4.out).mono ?_
      rintro e w5 ⟨rfl, hk5⟩
      have HK5 := Lib.hid (HKR.out.trans' (HK4.out.trans' hk5))
      clear hk5
      cases q
      · have HPN : Hid (P = ([], 2)) := by
          show _ = _
          rw [← HP.out]
          unfold orderP
          rw [if_neg (by rw [HC.out (by first | exact trivial | rfl)]; decide)]
        go_wp2_with fail
        go_step3
        refine ⟨rfl, ?_⟩
        go_wp2
        rw [Exit.noGoto_ret]
        refine bodyPost_ret (results_tmp2 rfl _ _ _) rfl ?_
        rw [HPN.out]
        exact EnrQ.no HK5.out
      · go_wp2_with fail
        go_roundw
        case rel => exact ⟨j + 1, by go_num, by omega, by show _ = _; rw [HT.out, HA.out]; rfl, HK5.out⟩
        case measure => simp [intOf]; omega
    · obtain rfl : j = n := by omega
      have h9 := HA.out
      rw [List.take_of_length_le (by rw [HEL.out]; exact Nat.le_refl _)] at h9
      have HPY : Hid (P = if anyLong (ordE (ents l)) = true then ([], 3) else (ordE (ents l), 0)) := by
        show _ = _
        rw [← HP.out]
        unfold orderP
        rw [if_pos h9]
      clear h9
      go_wp2_with fail
      refine (HTO.out _ HKR.out).mono ?_
      rintro e w5 ⟨b, T, rfl, ht5, hk5⟩
      have HE5 := Lib.hid ht5.ent
      have htl : T.length ≤ j := by have := ht5.len; rw [HEL.out] at this; exact this
      have HTE := Lib.hid (tentry_is b wr.heap.size T w5 ht5.tab (by omega) (fun a ha => by
        rw [← (ht5.tab.rows a ha).1.len, ht5.vs ha]
        exact HGL.out a.name))
      have HK5 := Lib.hid (HKR.out.trans' hk5)
      obtain ⟨m, hm⟩ : ∃ m, T.length = m := ⟨_, rfl⟩
      rw [HE5.out, hm] at HTE
      rw [hm] at htl
      have HML : Hid (m ≤ 1000) := by show _ ≤ _; omega
      clear ht5 hk5 hm htl
      obtain ⟨E, hE⟩ : ∃ E, ordE (ents l) = E := ⟨_, rfl⟩
      rw [hE] at HPY HTE
      clear hE HE5
      go_wp2_with fail
      refine HTE.out.mono ?_
      rintro e w6 ⟨A6, c6, rfl, ⟨L, hL1, hL2, hL3, hL4, hL5⟩, hk6⟩
      have HK6 := Lib.hid (HK5.out.trans' hk6)
      have HL1 := Lib.hid hL1
      have HL2 := Lib.hid hL2
      have HL3 : Hid (m ≤ c6 ∧ c6 ≤ 9223372036854775807 ∧ ∀ a ∈ L, a.vs.length = a.n) := ⟨hL3, hL4, hL5⟩
      have HELL : Hid (E.length = m) := by show _ = _; rw [← hL1, ents_len, hL2.1]
      clear hL1 hL2 hL3 hL4 hL5 hk6
      go_wp2_with fail
      obtain ⟨V, hV⟩ : ∃ V : World, V = wr := ⟨_, rfl⟩
      subst hV
      have hm1000 := HML.out
      go_loopw [28] (fun i wr => ∃ k : Nat, i = .int .i64 (k : Int) ∧ k ≤ m ∧ Hid ((E.take k).any (fun a => longN m a.2.length) = false) ∧ Hid (Keeps [] w6 wr)) (fun i _ => m - (intOf i).toNat)
      case atStart => exact ⟨0, rfl, Nat.zero_le _, by simp [Hid], Keeps.refl _ _⟩
      case round =>
        obtain ⟨k, rfl, hk, HB, HKS⟩ := hrel
        by_cases hlk : k < m
        · obtain ⟨hl, hp, hc9⟩ := EntIn.grow HKS.out HL2.out
          obtain ⟨b1, o, hA9, hcc⟩ := hc9 (by omega)
          clear hc9
          subst hA9
          obtain ⟨a, hu⟩ : ∃ a, L[k]? = some a := ⟨_, List.getElem?_eq_getElem (by omega)⟩
          obtain ⟨c0, c1⟩ := hcc k a hu
          have hvl := HL3.out.2.2 a (List.mem_of_getElem? hu)
          have hue := ents_at hu
          rw [HL1.out] at hue
          have HT := Lib.hid (any_take7 (p := fun a : Att => longN m a.2.length) hue)
          have HC := Lib.hid (fun h => any_yes7 (p := fun a : Att => longN m a.2.length) hue h)
          obtain ⟨nm, aA, an, ac, avs⟩ := a
          dsimp only at c0 c1 hvl
          unfold At7.att at HT HC
          dsimp only at HT HC
          rw [hvl] at HT HC
          have HIL := Lib.hid (fun X => islong_is m an X)
          obtain ⟨q, hq⟩ : ∃ q, longN m an = q := ⟨_, rfl⟩
          rw [hq] at HT HC HIL
          unfold tv at c0
          have hki : (k : Int) < (m : Int) := by omega
          have HK4 : Hid (Keeps [] wr (wr.alloc (.cells #[.string ⟨nm.toArray⟩, .slice aA an ac] 59))) := (Keeps.refl [] wr).alloc _
          obtain ⟨⟨d0, d1⟩, _⟩ := blk2 (heap_new8 wr (.cells #[.string ⟨nm.toArray⟩, .slice aA an ac] 59))
          obtain ⟨w4, hw4⟩ : ∃ w4, wr.alloc (.cells #[.string ⟨nm.toArray⟩, .slice aA an ac] 59) = w4 := ⟨_, rfl⟩
          rw [hw4] at HK4 d0 d1
          clear hcc hu hue hp hl hq hvl
          go_wp2_with fail
          refine (HIL.out _).mono ?_
          rintro e w7 ⟨rfl, rfl⟩
          cases q
          · go_wp2_with fail
            go_roundw
            case rel => exact ⟨k + 1, by go_num, by omega, by show _ = _; rw [HT.out, HB.out]; rfl, HKS.out.trans' HK4.out⟩
            case measure => simp [intOf]; omega
          · have HPN : Hid (P = ([], 3)) := by
              show _ = _
              rw [HPY.out, if_pos]
              unfold anyLong
              rw [HELL.out]
              exact HC.out (by first | exact trivial | rfl)
            go_wp2_with fail
            go_step3
            refine ⟨rfl, ?_⟩
            go_wp2
            rw [Exit.noGoto_ret]
            refine bodyPost_ret (results_tmp2 rfl _ _ _) rfl ?_
            rw [HPN.out]
            exact EnrQ.no (HK6.out.trans' (HKS.out.trans' HK4.out))
        · obtain rfl : k = m := by omega
          have h9 := HB.out
          rw [List.take_of_length_le (by rw [HELL.out]; exact Nat.le_refl _)] at h9
          have HPE : Hid (P = (E, 0)) := by
            show _ = _
            rw [HPY.out, if_neg]
            unfold anyLong
            rw [HELL.out, h9]
            decide
          clear h9
          go_wp2_with fail
          simp only [Exit.jump]
          refine bodyPost_ret (results_tmp2 rfl _ _ _) rfl ?_
          rw [HPE.out]
          exact ⟨A6, k, c6, rfl, ⟨L, HL1.out, EntIn.grow HKS.out HL2.out, HL3.out⟩, HK6.out.trans' HKS.out⟩
end Go.Proofs.YtebocagkpkpghaaGreatDoor
/- entry: slices.Clone, Grow, Concat of texts; walked. -/
namespace Go.Proofs.YtebocagkpkpghaaGreatDoor
open Go.RowKit Go.Shelf
set_option linter.unusedVariables false
set_option linter.unusedSimpArgs false
set_option maxRecDepth 100000

theorem tvs_cells (w : World) (A : Option Addr) (n : Nat) (l : List Txt) (o : Obj) (h : StrsIn w A n l) : Src (w.alloc o) A n (l.map tv) := (StrsIn.grow ((Keeps.refl [] w).alloc o) h).src
set_option maxHeartbeats 4000000 in
theorem clones_is (A : Option Addr) (n c : Nat) (l : List Txt) (w : World) (h : StrsIn w A n l) (hn : n ≤ 1000000) :
    Calls Tryz.prog 49 #[.slice A n c] w fun e w' => ∃ A' c', e = .returned (.slice A' n c') ∧ w'.ownsRow w.heap.size 9 1 (.slice A' n c') n (l.map tv) ∧ Keeps [] w w' := by
  obtain ⟨iu, hiu, hzu0, hzu1, hzu2⟩ := info_parts str_info7
  have HS := Lib.hid h.src
  have HSR := Lib.hid (fun o => tvs_cells w A n l o h)
  have HLL : Hid (l.length = n) := h.1
  have HL : Hid ((l.map tv).length = n * 1) := by show _ = _; rw [List.length_map, h.1, Nat.mul_one]
  have hq := fun (W : World) (a : Option Addr) (n c : Nat) => Lib.run_eql_slice_nil (P := Tryz.prog) W 40 9 a n c 0 0 Tryz.underlying40
  clear h
  rcases A with _ | ad
  · have hz : n = 0 := HS.out.1 rfl
    subst hz
    have hd : l = [] := List.length_eq_zero_iff.1 HLL.out
    subst hd
    go_enter Tryz.func49, Tryz.ntmps49
    go_wp2_with fail
    go_ret
    exact ⟨_, _, rfl, World.ownsRow_nil _ _ _ _, Keeps.refl _ _⟩
  · go_enter Tryz.func49, Tryz.ntmps49
    go_wp2_with (at_builtin; refine wpList_append_opt rfl (.tmp 5) (.tmp 6) 40 rfl w.heap.size 9 iu _ 1 16 Tryz.underlying40 hiu hzu0 hzu1 hzu2 rfl (by decide) (.slice (some ⟨w.heap.size, 0, none⟩) 0 0) 0 [] rfl (World.ownsRow_made w #[] 0 (Nat.le_refl _) (by unfold maxLen; omega) rfl) (some ad) n c (l.map tv) rfl HL.out (HSR.out _) (tvs_one l) (by unfold maxLen; omega) (by omega) (by simp) ?_; intro v1 w1 ho1 hg1 hs1; obtain ⟨A1, c1, hv1⟩ := own_slice ho1; subst hv1; have HG1 := Lib.hid (Keeps.trans ((Keeps.refl [] w).alloc (.cells #[] 9)) (Keeps.of_grown (bs := [w.heap.size]) hg1 (fun x hx => .inl (by simp [Value.ownBlock] at hx; simp [hx]))) (fun y hy => .inr (by rw [List.mem_singleton.1 hy]; exact Nat.le_refl _))); have HO1 : Hid (w1.ownsRow w.heap.size 9 1 (.slice A1 (0 + n) c1) (0 + n) (l.map tv)) := (by have h9 := ho1; rw [List.nil_append] at h9; exact h9); rw [Nat.zero_add] at HO1 ⊢; clear ho1 hg1 hs1)
    go_ret
    exact ⟨_, _, rfl, HO1.out, HG1.out⟩

theorem append_nil7 {P : Program} {w : World} (t u ty e : TypeId) (q : IntKind) (i : TypeInfo) (z c1 : Value) (ht : P.underlying t = some (.slice e)) (hu : P.underlying u = some (.int q)) (hi : P.info? e = some i) (hz : i.zero = some z)
    (hsize : i.size = 1) (hby : i.bytes = 16) (hzc : z.cells = #[c1]) (m : Nat) (h0 : 0 < m) (hm : m ≤ 1000000) :
    ∃ cap cs, (Builtin.append_ #[t, u] ty #[.slice none 0 0, .int .i64 (m : Int)]).run P w = .ok (.slice (some ⟨w.heap.size, 0, none⟩) m cap) (w.drew.alloc (.cells cs e)) ∧ m ≤ cap ∧ cap ≤ maxLen ∧ cs.size = cap * 1 := by
  have hwr : IntKind.i64.wrap (m : Int) = (m : Int) := IntWalk.i64_in _ (by omega)
  have hwr0 : IntKind.i64.wrap 0 = 0 := by decide
  have hm0 : ¬ ((m : Int) < 0) := by omega
  have hm48 : ¬ (281474976710656 < (m : Int) * 16) := by omega
  have hn : m ≠ 0 := by omega
  have h63' : ¬ (9223372036854775807 < (m : Int)) := by omega
  have h48' : ¬ (281474976710656 < Builtin.nextslicecap m 0 * 16) := by rw [nextslicecap_zero (by omega)]; omega
  have hge := grownCap_ge w m 0 e
  have hcm : grownCap w m 0 e ≤ maxLen := grownCap_le_maxLen w m 0 e (by unfold maxLen; omega)
  refine ⟨grownCap w m 0 e, Builtin.zeroCells #[c1] m ++ Builtin.zeroCells #[c1] (grownCap w m 0 e - m), ?_, hge, hcm, ?_⟩
  · simp [Builtin.append_, run_underlying ht, run_underlying hu, sizeOf, typeInfo, zeroValue, hi, hz, asInt, asIntOf, hwr, hwr0, hby, hsize, hm0, hm48, Builtin.lenOf, hn, h63', h48', Question.forced, run_firstCells_none, newRow, grownCap, hzc]
  · simp only [Array.size_append, size_zeroCells]
    simp
    omega
theorem wpList_append_nil7 {P : Program} {w : World} {ops : Array Oper} {rest : List Oper} {o : Oper} {a : Act} {Q : Exit → Act → World → Prop} (hgd : o.guard = none) (s x : Operand) (t u : TypeId)
    (ho : o.op = .call { callee := .builtin .append, args := #[s, x], argTypes := #[t, u] })
    (e : TypeId) (q : IntKind) (i : TypeInfo) (z c1 : Value) (ht : P.underlying t = some (.slice e)) (hu : P.underlying u = some (.int q)) (hi : P.info? e = some i) (hz : i.zero = some z)
    (hsize : i.size = 1) (hby : i.bytes = 16) (hzc : z.cells = #[c1]) (hs : a.eval s = .slice none 0 0) (m : Nat) (hx : a.eval x = .int .i64 (m : Int)) (h0 : 0 < m) (hm : m ≤ 1000000)
    (h : ∀ cap cs, m ≤ cap → cap ≤ maxLen → cs.size = cap * 1 → wpList P ops Q rest (a.put o.dst (.slice (some ⟨w.heap.size, 0, none⟩) m cap)) (w.drew.alloc (.cells cs e))) : wpList P ops Q (o :: rest) a w := by
  refine wpList_plain hgd fun K hK => ?_
  obtain ⟨cap, cs, hr, h2, h3, h4⟩ := append_nil7 (P := P) (w := w) t u o.type e q i z c1 ht hu hi hz hsize hby hzc m h0 hm
  unfold Oper.wp execOp
  simp only [ho, resolve, invoke, builtin, Sem.run_bind, Sem.run_pure, Result.andThen_ok, List.map_toArray, List.map_cons, List.map_nil, hs, hx, hr]
  exact hK _ _ (h cap cs h2 h3 h4)

set_option maxHeartbeats 4000000 in
theorem grows_is (n : Nat) (w : World) (hn : n ≤ 1000000) : Calls Tryz.prog 74 #[.slice none 0 0, .int .i64 (n : Int)] w fun e w' => ∃ A d, e = .returned (.slice A 0 d) ∧ w'.ownsRow w.heap.size 9 1 (.slice A 0 d) 0 [] ∧ Keeps [] w w' := by
  obtain ⟨iu, hiu, hzu0, hzu1, hzu2⟩ := info_parts str_info7
  have h0 : ¬ (n : Int) < 0 := by omega
  by_cases hz : n = 0
  · subst hz
    go_enter Tryz.func74, Tryz.ntmps74
    go_wp2_with fail
    go_ret
    exact ⟨_, _, rfl, World.ownsRow_nil _ _ _ _, Keeps.refl _ _⟩
  · have h1 : (0 : Int) < (n : Int) := by omega
    go_enter Tryz.func74, Tryz.ntmps74
    go_wp2_with (at_builtin; refine wpList_append_nil7 rfl (.tmp 20) (.tmp 21) 40 3 rfl 9 .i64 iu (.string ⟨#[]⟩) (.string ⟨#[]⟩) Tryz.underlying40 Tryz.underlying3 hiu hzu0 hzu1 hzu2 rfl rfl n rfl (by omega) (by omega) ?_; intro cap cs hc1 hc2 hc3; have HK : Hid (Keeps [] w (w.drew.alloc (.cells cs 9))) := ((Keeps.refl [] w).drew).alloc _; have HO : Hid ((w.drew.alloc (.cells cs 9)).ownsRow w.heap.size 9 1 (.slice (some ⟨w.heap.size, 0, none⟩) 0 cap) 0 []) := ⟨rfl, .inr ⟨w.heap.size, cap, cs, rfl, Nat.le_refl _, heap_alloc_new w.drew _, Nat.zero_le _, hc2, hc3, by simp⟩⟩)
    go_ret
    exact ⟨_, _, rfl, HO.out, HK.out⟩

/-- Rows of texts, one behind the other, as slices. -/
def RowsIn (w : World) (b : Nat) (l : List At7) : Prop := ∀ (j : Nat) (x : At7), l[j]? = some x → w.cell? ⟨b, j, none⟩ = some (.slice x.A x.n x.c) ∧ StrsIn w x.A x.n x.vs
theorem RowsIn.grow {w w' : World} {b : Nat} {l : List At7} (h : RowsIn w b l) (hk : Keeps [] w w') : RowsIn w' b l := fun j x hx => by
  obtain ⟨h1, h2⟩ := h j x hx
  exact ⟨(hk.cell (lt_of_cell h1) (by simp)).trans h1, StrsIn.grow hk h2⟩
def totS (l : List At7) : Nat := (l.map (·.n)).sum
def flatS (l : List At7) : List Txt := l.flatMap (·.vs)
theorem totS_next {l : List At7} {j : Nat} {m : At7} (h : l[j]? = some m) : totS (l.take (j + 1)) = totS (l.take j) + m.n ∧ flatS (l.take (j + 1)) = flatS (l.take j) ++ m.vs := by
  rw [List.take_add_one, h]
  simp [totS, flatS]
theorem totS_le : ∀ (l : List At7) (j : Nat), totS (l.take j) ≤ totS l
  | [], j => by simp
  | x :: r, 0 => by simp [totS]
  | x :: r, j + 1 => by
    have h := totS_le r j
    simp only [totS, List.take_succ_cons, List.map_cons, List.sum_cons] at *
    omega

set_option maxHeartbeats 4000000 in
theorem concats_is (b k : Nat) (l : List At7) (w : World) (hk : l.length = k) (hk2 : k ≤ 1000) (h : RowsIn w b l) (ht : totS l ≤ 1000000) :
    Calls Tryz.prog 51 #[.slice (some ⟨b, 0, none⟩) k k] w fun e w' => ∃ B d, e = .returned (.slice B (totS l) d) ∧ w'.ownsRow w.heap.size 9 1 (.slice B (totS l) d) (totS l) ((flatS l).map tv) ∧ Keeps [] w w' := by
  obtain ⟨iu, hiu, hzu0, hzu1, hzu2⟩ := info_parts str_info7
  have HL := Lib.hid h
  have HN := Lib.hid hk
  have HG := Lib.hid (grows_is (totS l) w ht)
  have HTT := Lib.hid ht
  clear h hk ht
  go_enter Tryz.func51, Tryz.ntmps51
  go_wp2_with fail
  go_loopw [3, 11] (fun s i wr => ∃ j : Nat, s = .int .i64 (totS (l.take j) : Nat) ∧ i = .int .i64 (j : Int) ∧ j ≤ k ∧ wr = w) (fun _ i _ => k - (intOf i).toNat)
  case atStart => exact ⟨0, rfl, rfl, Nat.zero_le _, rfl⟩
  case round =>
    obtain ⟨j, rfl, rfl, hj, rfl⟩ := hrel
    by_cases hlt : j < k
    · obtain ⟨x, hx⟩ : ∃ x, l[j]? = some x := ⟨_, List.getElem?_eq_getElem (by have := HN.out; omega)⟩
      obtain ⟨c0, hin⟩ := HL.out j x hx
      have hts := (totS_next hx).1
      have hle := totS_le l (j + 1)
      have htt := HTT.out
      obtain ⟨nm, A1, n1, c1, d1⟩ := x
      dsimp only at c0 hts
      obtain ⟨q, hq⟩ : ∃ q, totS (l.take j) = q := ⟨_, rfl⟩
      rw [hq] at hts ⊢
      have HTS := Lib.hid hts
      have hw64 : wrap64 ((q : Int) + (n1 : Int)) = (q : Int) + (n1 : Int) := by unfold wrap64; omega
      have hne : ¬ ((q : Int) + (n1 : Int)) < 0 := by omega
      clear hin hts hx hq hle htt
      go_wp2_with fail
      go_roundw
      case rel => exact ⟨j + 1, by rw [HTS.out]; congr 1, by go_num, by omega, trivial⟩
      case measure => simp [intOf]; omega
    · obtain rfl : j = k := by omega
      have htk : l.take j = l := List.take_of_length_le (by have := HN.out; omega)
      rw [htk]
      clear htk
      obtain ⟨T, hT⟩ : ∃ T, totS l = T := ⟨_, rfl⟩
      rw [hT] at HG ⊢
      have HT := Lib.hid hT
      clear hT
      go_wp2_with fail
      refine HG.out.mono ?_
      rintro e w1 ⟨GA, gd, rfl, ho, hk1⟩
      have HO := Lib.hid ho
      have HK1 := Lib.hid hk1
      clear ho hk1
      go_wp2_with fail
      obtain ⟨wo, rfl⟩ : ∃ wo : World, wo = wr := ⟨_, rfl⟩
      go_loopw [6, 27] (fun v i wq => ∃ (j2 q : Nat) (VA : Option Addr) (vc : Nat), v = .slice VA q vc ∧ i = .int .i64 (j2 : Int) ∧ j2 ≤ j ∧ Hid (q = totS (l.take j2)) ∧ Hid (wq.ownsRow wo.heap.size 9 1 (.slice VA q vc) q ((flatS (l.take j2)).map tv)) ∧ Hid (Keeps [] wo wq)) (fun _ i _ => j - (intOf i).toNat)
      case atStart => exact ⟨0, 0, GA, gd, rfl, rfl, Nat.zero_le _, rfl, HO.out, HK1.out⟩
      case round =>
        obtain ⟨j2, q, VA, vc, rfl, rfl, hj2, HQ, HOW, HKR⟩ := hrel
        by_cases hlt2 : j2 < j
        · obtain ⟨x, hx⟩ : ∃ x, l[j2]? = some x := ⟨_, List.getElem?_eq_getElem (by have := HN.out; omega)⟩
          obtain ⟨c0, hin⟩ := (HL.out.grow HKR.out) j2 x hx
          obtain ⟨hts, hfs⟩ := totS_next hx
          have hle := totS_le l (j2 + 1)
          have htt := HTT.out
          obtain ⟨nm, A1, n1, c1, d1⟩ := x
          dsimp only at c0 hts hfs hin
          rw [← HQ.out] at hts
          have HTS := Lib.hid hts
          have HFS := Lib.hid hfs
          have hbnd : q + n1 ≤ 1000000 := by omega
          have SB : Hid (Src wr A1 n1 (d1.map tv)) := hin.src
          have HDL : Hid ((d1.map tv).length = n1 * 1) := by show _ = _; rw [List.length_map, hin.1, Nat.mul_one]
          have hz := HKR.out.size
          clear hin hts hfs hx hle htt
          go_wp2_with (at_builtin; refine wpList_append_opt rfl (.tmp 31) (.tmp 32) 40 rfl wo.heap.size 9 iu _ 1 16 Tryz.underlying40 hiu hzu0 hzu1 hzu2 rfl (by decide) (.slice VA q vc) q ((flatS (l.take j2)).map tv) rfl HOW.out A1 n1 c1 (d1.map tv) rfl HDL.out SB.out (tvs_one d1) (by unfold maxLen; omega) (by omega) hz ?_; intro v2 w2 ho hg hs; rw [← List.map_append] at ho; obtain ⟨VB, vd, hv⟩ := own_slice ho; subst hv; have HO2 := Lib.hid ho; have HK2 := Lib.hid (keeps_own7 HOW.out HKR.out hg); clear ho hg hs)
          go_roundw
          case rel => exact ⟨j2 + 1, q + n1, VB, vd, rfl, by go_num, by omega, by show _ = _; rw [HTS.out], by show World.ownsRow _ _ _ _ _ _ _; rw [HFS.out]; exact HO2.out, HK2.out⟩
          case measure => simp [intOf]; omega
        · obtain rfl : j2 = j := by omega
          have htk : l.take j2 = l := List.take_of_length_le (by have := HN.out; omega)
          rw [htk] at HOW HQ
          have hqT : q = T := by rw [HQ.out, HT.out]
          subst hqT
          clear htk
          go_wp2_with fail
          go_ret
          rw [HT.out]
          exact ⟨_, _, rfl, HOW.out, HKR.out⟩
end Go.Proofs.YtebocagkpkpghaaGreatDoor
