/- Texts of one proof, laid together: F56 F58. -/
import Derived.Test.YtoggddoeanfjeaaGreatDoorMC7
import Derived.Test.YtoggddoeanfjeaaGreatDoorMD6
import Derived.BigQuiet
import Derived.Test.YtoggddoeanfjeaaGreatDoorMB1
import Derived.StillTactics
/- filter: entries under way, appended (as in X5, X21, W7, W25); what others beside an entry change. -/
namespace Go.Proofs.YtoggddoeanfjeaaGreatDoor
open Go.RowKit Go.Shelf
set_option linter.unusedVariables false
set_option linter.unusedSimpArgs false
set_option maxRecDepth 100000

theorem append_alike {P : Program} {w : World} {t u ty e e2 : TypeId} {v x : Value} (ht : P.underlying t = some (.slice e)) (hu : P.underlying u = some (.slice e2)) : (Builtin.append_ #[t, u] ty #[v, x]).run P w = (Builtin.append_ #[t, t] ty #[v, x]).run P w := by
  cases v <;> simp [Builtin.append_, run_underlying ht, run_underlying hu]
/-- An append whose two types are not the same, but slices both. -/
theorem wpList_append_two {P : Program} {w : World} {ops : Array Oper} {rest : List Oper} {o : Oper} {a : Act} {Q : Exit → Act → World → Prop} (hgd : o.guard = none) (s x : Operand) (t u : TypeId)
    (ho : o.op = .call { callee := .builtin .append, args := #[s, x], argTypes := #[t, u] })
    (base : Nat) (e e2 : TypeId) (i : TypeInfo) (z : Value) (size bytes : Nat) (ht : P.underlying t = some (.slice e)) (hu : P.underlying u = some (.slice e2)) (hi : P.info? e = some i) (hz : i.zero = some z)
    (hsize : i.size = size) (hby : i.bytes = bytes) (hzs : z.cells.size = size) (hsz : 0 < size)
    (v : Value) (n : Nat) (xs : List Value) (hs : a.eval s = v) (hown : w.ownsRow base e size v n xs)
    (A : Option Addr) (m c : Nat) (news : List Value) (hx : a.eval x = .slice A m c) (hl : news.length = m * size) (hnews : Src w A m news) (h1 : ∀ u ∈ news, u.oneCell' = true)
    (h63 : n + m ≤ maxLen) (hbytes : (n + m) * bytes ≤ 140737488355328) (hbase : base ≤ w.heap.size)
    (h : ∀ v' w', w'.ownsRow base e size v' (n + m) (xs ++ news) → w.grownBy w' v.ownBlock → (v'.ownBlock = v.ownBlock ∨ v'.ownBlock = some w.heap.size) → wpList P ops Q rest (a.put o.dst v') w') : wpList P ops Q (o :: rest) a w := by
  refine wpList_plain hgd fun K hK => ?_
  obtain ⟨v', w', hr, h2, h3, h4⟩ := run_append_opt (P := P) (w := w) base t o.type e i z size bytes ht hi hz hsize hby hzs hsz v n xs hown A m c news hl hnews h1 h63 hbytes hbase
  rw [← append_alike ht hu] at hr
  unfold Oper.wp execOp
  simp only [ho, resolve, invoke, builtin, Sem.run_bind, Sem.run_pure, Result.andThen_ok, List.map_toArray, List.map_cons, List.map_nil, hs, hx, hr]
  exact hK _ _ (h v' w' h2 h3 h4)
theorem EntIn.src {w : World} {A : Option Addr} {n : Nat} {l : List At7} (h : EntIn w A n l) : Src w A n (atCells l) := by
  refine ⟨fun hA => ?_, fun ad hA j u hu => ?_⟩
  · rcases Nat.eq_zero_or_pos n with h0 | h0
    · exact h0
    · obtain ⟨b, o, e, _⟩ := h.2.2 h0
      rw [hA] at e
      cases e
  · have hj : j < l.length * 2 := by
      rw [← atCells_len]
      exact (List.getElem?_eq_some_iff.1 hu).1
    have hp : 0 < n := by rw [← h.1]; omega
    obtain ⟨b, o, e, hc⟩ := h.2.2 hp
    rw [hA] at e
    injection e with e
    obtain ⟨x, hx⟩ : ∃ x, l[j / 2]? = some x := ⟨_, List.getElem?_eq_getElem (by omega)⟩
    obtain ⟨c0, c1⟩ := hc (j / 2) x hx
    obtain ⟨d0, d1⟩ := atCells_at l (j / 2) x hx
    rw [e, add_at]
    rcases Nat.mod_two_eq_zero_or_one j with h2 | h2
    · rw [show j / 2 * 2 = j by omega] at c0 d0
      rw [d0] at hu
      injection hu with hu
      rw [← hu]
      exact c0
    · rw [Nat.add_assoc, show j / 2 * 2 + 1 = j by omega] at c1
      rw [show j / 2 * 2 + 1 = j by omega] at d1
      rw [d1] at hu
      injection hu with hu
      rw [← hu]
      exact c1
/-- An entry under way. -/
structure SetS (w wr : World) (A : Option Addr) (j c : Nat) (L : List At7) (e : List Att) : Prop where
  says : ents L = e
  len : L.length = j
  row : wr.ownsRow w.heap.size 55 2 (.slice A j c) j (atCells L)
  fits : ∀ a ∈ L, a.fits w
  keep : Keeps [] w wr
theorem atCells_snoc (l : List At7) (a : At7) : atCells (l ++ [a]) = atCells l ++ [tv a.name, a.val] := by simp [atCells]
theorem SetS.snoc {w wr W w6 : World} {A A6 : Option Addr} {m c c6 : Nat} {L : List At7} {e : List Att} (h : SetS w wr A m c L e) (a : At7) (hk : Keeps [] wr W) (hg : W.grownBy w6 (.slice A m c : Value).ownBlock) (ho : w6.ownsRow w.heap.size 55 2 (.slice A6 (m + 1) c6) (m + 1) (atCells L ++ [tv a.name, a.val])) (hs : a.fits w) : SetS w w6 A6 (m + 1) c6 (L ++ [a]) (e ++ [a.att]) :=
  ⟨by rw [← h.says]; simp [ents], by rw [List.length_append, h.len]; rfl, by rw [atCells_snoc]; exact ho, fun x hx => by
    rcases List.mem_append.1 hx with hx | hx
    · exact h.fits x hx
    · rw [List.mem_singleton.1 hx]; exact hs, keeps_own7 (own_keep h.row hk (by simp)) (h.keep.trans' hk) hg⟩
theorem src_at7 (w : World) (a : At7) (t : TypeId) : Src (w.alloc (.cells #[tv a.name, a.val] t)) (some ⟨w.heap.size, 0, none⟩) 1 [tv a.name, a.val] := by
  refine ⟨(fun h => by cases h), fun ad hA j u hu => ?_⟩
  cases hA
  rw [add_at, Nat.zero_add, World.cell?_alloc_new]
  simpa using hu
theorem attr_info7 : (Tryz.prog.info? 55).map (fun i => (i.zero, i.size, i.bytes)) = some (some (.agg #[.string ⟨#[]⟩, .slice none 0 0]), 2, 40) := by kernel_rfl
theorem atCells_one8 (l : List At7) : ∀ u ∈ atCells l, u.oneCell' = true := by
  intro u hu
  unfold atCells at hu
  obtain ⟨a, _, h⟩ := List.mem_flatMap.1 hu
  simp at h
  rcases h with rfl | rfl <;> rfl
theorem slice_one7 (b o m d i : Nat) (hi : i < m) (hmd : m ≤ d) (hd : d ≤ 9223372036854775807) : ∀ W, (Instr.slice 26 (.slice (some ⟨b, o, none⟩) m d) (some (.int .i64 (i : Int))) (some (.int .i64 ((i : Int) + 1))) none).run Tryz.prog W = .ok (.slice (some ⟨b, o + i * 2, none⟩) 1 (d - i)) W := by
  intro W
  rw [run_slice_lh W 26 (some ⟨b, o, none⟩) m d (by simp [Program.elem, Tryz.underlying26]) .i64 .i64 _ _ (by omega) (by omega) (by omega)]
  rw [show Tryz.prog.elem 26 = 55 by simp [Program.elem, Tryz.underlying26], Tryz.sizeOf55]
  have h1 : ¬ d = i := by omega
  have h2 : ((i : Int) + 1 - (i : Int)) = 1 := by omega
  have h3 : ((i : Int) + 1).toNat = i + 1 := by omega
  simp [Result.andThen, sliced, h1, h3]
  unfold Addr.add
  simp
theorem ents_one {w : World} {b o m i : Nat} {l : List At7} (h : EntIn w (some ⟨b, o, none⟩) m l) {a : At7} (ha : l[i]? = some a) : EntIn w (some ⟨b, o + i * 2, none⟩) 1 [a] := by
  refine ⟨rfl, fun x hx => by rw [List.mem_singleton.1 hx]; exact h.2.1 a (List.mem_of_getElem? ha), fun _ => ⟨b, o + i * 2, rfl, fun q x hq => ?_⟩⟩
  cases q with
  | zero =>
    cases hq
    obtain ⟨b', o', e, hc⟩ := h.2.2 (by have := (List.getElem?_eq_some_iff.1 ha).1; rw [h.1] at this; omega)
    cases e
    simpa using hc i a ha
  | succ q => simp at hq
/-- Which of an entry's own stay beside others. -/
def stayA (bs : List Att) (a : Att) : Bool := decide ((cont2 bs (smallL a.1)).length = 0)
theorem vals_more (own bs : List Att) (s : Txt) : valsS own bs (smallL s) = valsS (bs ++ own.filter (stayA bs)) [] (smallL s) := by
  rw [vals_low]
  unfold valsS cont2
  rw [List.find?_append, smallL_idem]
  cases hb : bs.find? (fun a => a.1 == smallL s) with
  | some a => simp
  | none =>
    simp only [Option.none_or]
    rw [List.find?_filter]
    have hf : (fun a : Att => a.1 == smallL s) = (fun a => decide (stayA bs a = true ∧ (a.1 == smallL s) = true)) := by
      funext a
      cases hq : (a.1 == smallL s) with
      | false => simp
      | true =>
        have he : a.1 = smallL s := by simpa using hq
        have hs : stayA bs a = true := by
          unfold stayA cont2
          rw [he, smallL_idem, hb]
          simp
        simp [hs]
    rw [hf]
theorem mean_more (own bs : List Att) : ∀ t : FV, meanF own bs (lowF t) = meanF (bs ++ own.filter (stayA bs)) [] (lowF t) := by
  intro t
  induction t using FV.ind with
  | h k l s v ih =>
    have hm : (l.map fun t => meanF own bs (lowF t)) = (l.map fun t => meanF (bs ++ own.filter (stayA bs)) [] (lowF t)) := List.map_congr_left ih
    simp only [lowF, meanF]
    rw [meanFL_map, meanFL_map, lowFL_map, List.map_map, List.map_map]
    rw [show (meanF own bs ∘ lowF) = fun t => meanF own bs (lowF t) from rfl, show (meanF (bs ++ own.filter (stayA bs)) [] ∘ lowF) = fun t => meanF (bs ++ own.filter (stayA bs)) [] (lowF t) from rfl, hm]
    unfold meanK
    rw [vals_more]
/-- What others beside an entry must be, the first of them. -/
def BesOk (f0 : Bool) (bs : List Att) : Prop := f0 = true ∧ (∀ a ∈ bs, entOk [a] = true) ∧ (namesT bs).Nodup
theorem bes_snoc {f0 : Bool} {bs : List Att} {a : Att} : BesOk f0 (bs ++ [a]) ↔ BesOk f0 bs ∧ entOk [a] = true ∧ ∀ x ∈ bs, x.1 ≠ a.1 := by
  unfold BesOk namesT
  rw [List.map_append, List.nodup_append]
  simp only [List.mem_append, List.mem_singleton, List.map_cons, List.map_nil, List.mem_map]
  constructor
  · rintro ⟨h1, h2, h3, h4, h5⟩
    exact ⟨⟨h1, fun x hx => h2 x (.inl hx), h3⟩, h2 a (.inr rfl), fun x hx => h5 x.1 ⟨x, hx, rfl⟩ a.1 rfl⟩
  · rintro ⟨⟨h1, h2, h3⟩, h4, h5⟩
    refine ⟨h1, fun x hx => ?_, h3, by simp, ?_⟩
    · rcases hx with hx | rfl
      · exact h2 x hx
      · exact h4
    · rintro x ⟨y, hy, rfl⟩ z rfl
      exact h5 y hy
theorem means_more (own bs : List Att) (t : FV) : (BesOk (rightF t && entOk own) bs → meansP own bs t = (meanF own bs (lowF t), 0)) ∧ (¬ BesOk (rightF t && entOk own) bs → meansP own bs t = (false, 2)) := by
  have h : (rightF t = true ∧ standsP own bs = true) ↔ BesOk (rightF t && entOk own) bs := by
    unfold BesOk standsP
    simp only [Bool.and_eq_true, List.all_eq_true, decide_eq_true_eq]
    constructor
    · rintro ⟨h1, h2, h3, h4⟩
      refine ⟨⟨h1, h4⟩, h2, ?_⟩
      exact Classical.byContradiction fun hn => by have := ordS_dup hn; omega
    · rintro ⟨⟨h1, h4⟩, h2, h3⟩
      exact ⟨h1, h2, ordS_nodup h3, h4⟩
  unfold meansP
  constructor
  · intro h9; rw [if_pos (h.2 h9)]
  · intro h9; rw [if_neg (fun h8 => h9 (h.1 h8))]
end Go.Proofs.YtoggddoeanfjeaaGreatDoor
/- filter: a drawn region with guards that do not hold (as in T21). -/
namespace Go.Proofs.YtoggddoeanfjeaaGreatDoor
open Go.RowKit Go.Shelf
set_option linter.unusedVariables false
set_option linter.unusedSimpArgs false
set_option maxRecDepth 100000

theorem still_on {P : Program} {ops : Array Oper} {w : World} {Q : Act → Prop} {rest : List Oper} {a a' : Act} {o : Oper} (hw : Region.wanted o (yielded ops a.tmps) = true) (ho : ∀ K : Act → Prop, K a' → o.still P a w K) (h : Hid (wpStill P ops w Q rest a')) : Hid (wpStill P ops w Q (o :: rest) a) :=
  wpStill_step fun K hK => by rw [if_pos hw]; exact ho K (hK _ h)
theorem still_off {P : Program} {ops : Array Oper} {w : World} {Q : Act → Prop} {rest : List Oper} {a : Act} {o : Oper} (hw : Region.wanted o (yielded ops a.tmps) = false) (h : Hid (wpStill P ops w Q rest (a.put o.dst undef))) : Hid (wpStill P ops w Q (o :: rest) a) :=
  wpStill_step fun K hK => by rw [if_neg (by rw [hw]; decide)]; exact hK _ h
theorem still_end {P : Program} {ops : Array Oper} {w : World} {Q : Act → Prop} {a : Act} (h : Q a) : Hid (wpStill P ops w Q [] a) := h
theorem region_Y {P : Program} {id : Nat} {Q : Exit → Act → World → Prop} {a : Act} {w : World} {l : List Oper} (hm : P.follows .mixedOrders = true) (hB : Region.lexB .any l.toArray = true)
    (h : ∀ Z : List Oper → Act → Prop, (∀ (o : Oper) (rest : List Oper) (a a' : Act), Region.wanted o (yielded l.toArray a.tmps) = true → (∀ K : Act → Prop, K a' → o.still P a w.drew K) → Z rest a' → Z (o :: rest) a) →
      (∀ (o : Oper) (rest : List Oper) (a : Act), Region.wanted o (yielded l.toArray a.tmps) = false → Z rest (a.put o.dst undef) → Z (o :: rest) a) → (∀ a, Q .normal a w.drew → Z [] a) → Z l a) : (Code.region id l.toArray true).wp P Q a w :=
  wp_region_still_lit hm hB (h (fun r a => wpStill P l.toArray w.drew (fun a' => Q .normal a' w.drew) r a) (fun o rest a a' h1 h2 h3 => still_on h1 h2 h3) (fun o rest a h1 h2 => still_off h1 h2) (fun a h1 => still_end h1))
end Go.Proofs.YtoggddoeanfjeaaGreatDoor
