import Derived.Test.YtbfebljahjmjfaaGreatDoorQ06
import Derived.Recover
import Derived.Laws.Pointers
import Derived.Laws.EntriesVeiled
import Derived.BigQuiet
/- entry: Check; walked. -/
namespace Go.Proofs.YtbfebljahjmjfaaGreatDoor
open Go.RowKit Go.Shelf
set_option linter.unusedVariables false
set_option linter.unusedSimpArgs false
set_option maxRecDepth 100000

/-- May an attribute be one of n? -/
def oneOk (n : Nat) (a : Att) : Bool := !longN n a.2.length && attrOk a
/-- May an entry be? -/
def entOk (e : List Att) : Bool := e.all (oneOk e.length) && (namesT e == ordS (namesT e))
theorem all_take7 {α : Type} {xs : List α} {p : α → Bool} {j : Nat} {u : α} (hu : xs[j]? = some u) : (xs.take (j + 1)).all p = ((xs.take j).all p && p u) := by
 rw [List.take_add_one, hu, List.all_append]
 simp
theorem all_cut7 {α : Type} {xs : List α} {p : α → Bool} {j : Nat} {u : α} (hu : xs[j]? = some u) (h : p u = false) : xs.all p = false := by
 rw [List.all_eq_false]
 exact ⟨u, List.mem_of_getElem? hu, by simp [h]⟩

set_option maxHeartbeats 8000000 in
theorem check7_is (A : Option Addr) (n c : Nat) (l : List At7) (w : World) (h : EntIn w A n l) (hf : Few7 100000 l) :
  Calls Tryz.prog 123 #[.slice A n c] w fun e w' => e = .returned (.int .i64 (if entOk (ents l) then 0 else 2)) ∧ Keeps [] w w' := by
 have HD := Lib.hid h
 have HF := Lib.hid hf
 have hn : n ≤ 100000 := by rw [← h.1]; exact hf.1
 have HNM := Lib.hid (fun X (hX : Keeps [] w X) => namesof_is A n c l X (EntIn.grow hX h) hn)
 have HNL : Hid ((namesT (ents l)).length = n) := by show _ = _; simp [namesT, ents, h.1]
 have HNB : Hid (∀ s ∈ namesT (ents l), s.length ≤ 9223372036854775807) := fun s hs => by
  simp only [namesT, ents, List.map_map, List.mem_map] at hs
  obtain ⟨a, ha, rfl⟩ := hs
  exact (h.2.1 a ha).1
 have HEL : Hid ((ents l).length = n) := by show _ = _; rw [ents_len, h.1]
 obtain ⟨r, hr⟩ : ∃ r, entOk (ents l) = r := ⟨_, rfl⟩
 rw [hr]
 unfold entOk at hr
 rw [HEL.out] at hr
 obtain ⟨q, hq⟩ : ∃ q, (namesT (ents l) == ordS (namesT (ents l))) = q := ⟨_, rfl⟩
 rw [hq] at hr
 have HR : Hid (((ents l).all (oneOk n) && q) = r) := hr
 have HQ := Lib.hid hq
 clear h hf hr hq
 go_enter Tryz.func123, Tryz.ntmps123
 go_wp2_with fail
 refine wp_scope_once 0 rfl ?_
 go_wp2_with fail
 go_loopw [7] (fun i wr => ∃ j : Nat, i = .int .i64 (j : Int) ∧ j ≤ n ∧ Hid (((ents l).take j).all (oneOk n) = true) ∧ Hid (Keeps [] w wr)) (fun i _ => n - (intOf i).toNat)
 case atStart => exact ⟨0, rfl, Nat.zero_le _, rfl, Keeps.refl _ _⟩
 case round =>
  obtain ⟨j, rfl, hj, HA, HKR⟩ := hrel
  by_cases hlt : j < n
  ·obtain ⟨hl, hp, hc9⟩ := EntIn.grow HKR.out HD.out
   obtain ⟨b, o, hA9, hcc⟩ := hc9 (by omega)
   clear hc9
   subst hA9
   obtain ⟨a, hu⟩ : ∃ a, l[j]? = some a := ⟨_, List.getElem?_eq_getElem (by omega)⟩
   obtain ⟨c0, c1⟩ := hcc j a hu
   have hfit := hp a (List.mem_of_getElem? hu)
   have hfn := HF.out.2 a (List.mem_of_getElem? hu)
   have hue := ents_at hu
   have HT := Lib.hid (all_take7 (p := oneOk n) hue)
   have HC := Lib.hid (fun h => all_cut7 (p := oneOk n) hue h)
   obtain ⟨q1, hq1⟩ : ∃ q, oneOk n a.att = q := ⟨_, rfl⟩
   rw [hq1] at HT HC
   unfold oneOk at hq1
   have hvl : a.att.2.length = a.n := hfit.2.2.2.1
   rw [hvl] at hq1
   have HIA := Lib.hid (fun X (hX : Keeps [] wr X) => isattr_is a X (hfit.grow hX) hfn)
   obtain ⟨q2, hq2⟩ : ∃ q, attrOk a.att = q := ⟨_, rfl⟩
   rw [hq2] at hq1 HIA
   obtain ⟨nm, aA, an, ac, avs⟩ := a
   dsimp only at c0 c1 hq1 HIA
   have HIL := Lib.hid (fun X => islong_is n an X)
   obtain ⟨q3, hq3⟩ : ∃ q, longN n an = q := ⟨_, rfl⟩
   rw [hq3] at HIL hq1
   unfold tv at c0 HIA
   have hji : (j : Int) < (n : Int) := by omega
   have HK4 : Hid (Keeps [] wr (wr.alloc (.cells #[.string ⟨nm.toArray⟩, .slice aA an ac] 70))) := (Keeps.refl [] wr).alloc _
   obtain ⟨⟨d0, d1⟩, _⟩ := blk2 (heap_new8 wr (.cells #[.string ⟨nm.toArray⟩, .slice aA an ac] 70))
   obtain ⟨w4, hw4⟩ : ∃ w4, wr.alloc (.cells #[.string ⟨nm.toArray⟩, .slice aA an ac] 70) = w4 := ⟨_, rfl⟩
   rw [hw4] at HK4 d0 d1
   clear hcc hu hue hp hl hfit hfn hq2 hq3 hvl
   cases q3
   ·have HH : Hid (q2 = q1) := by show _ = _; rw [← hq1]; simp
    obtain rfl := HH.out
    clear hq1 HH
    go_wp2_with fail
    refine (HIL.out _).mono ?_
    rintro e w5 ⟨rfl, rfl⟩
    go_wp2_with fail
    refine (HIA.out _ HK4.out).mono ?_
    rintro e w6 ⟨rfl, hk6⟩
    have HK6 := Lib.hid (HKR.out.trans' (HK4.out.trans' hk6))
    clear hk6
    cases q2
    ·go_wp2_with fail
     go_step3
     refine ⟨rfl, ?_⟩
     go_wp2
     rw [Exit.noGoto_ret]
     go_ret
     exact ⟨by rw [← HR.out, HC.out (by first | exact trivial | rfl)]; rfl, HK6.out⟩
    ·go_wp2_with fail
     go_roundw
     case rel => exact ⟨j + 1, by go_num, by omega, by show _ = _; rw [HT.out, HA.out]; rfl, HK6.out⟩
     case measure => simp [intOf]; omega
   ·obtain rfl : q1 = false := by rw [← hq1]; rfl
    clear hq1
    go_wp2_with fail
    refine (HIL.out _).mono ?_
    rintro e w5 ⟨rfl, rfl⟩
    go_wp2_with fail
    go_step3
    refine ⟨rfl, ?_⟩
    go_wp2
    rw [Exit.noGoto_ret]
    go_ret
    exact ⟨by rw [← HR.out, HC.out (by first | exact trivial | rfl)]; rfl, HKR.out.trans' HK4.out⟩
  ·obtain rfl : j = n := by omega
   have h9 := HA.out
   rw [List.take_of_length_le (by rw [HEL.out]; exact Nat.le_refl _)] at h9
   have H9 : Hid (q = r) := by show _ = _; rw [← HR.out, h9]; rfl
   clear h9
   go_wp2_with fail
   refine (HNM.out _ HKR.out).mono ?_
   rintro e w5 ⟨A', c', rfl, h1, h2⟩
   have HIO := Lib.hid (isordered_is A' j c' (namesT (ents l)) w5 (StrsIn.of_own h1 HNL.out HNB.out) (by omega))
   rw [HQ.out] at HIO
   have HK5 := Lib.hid (HKR.out.trans' h2)
   clear h1 h2
   go_wp2_with fail
   refine HIO.out.mono ?_
   rintro e w6 ⟨rfl, hk6⟩
   have HK6 := Lib.hid (HK5.out.trans' hk6)
   clear hk6
   cases q
   ·go_wp2_with fail
    go_step3
    refine ⟨rfl, ?_⟩
    go_wp2
    rw [Exit.noGoto_ret]
    go_ret
    exact ⟨by rw [← H9.out]; rfl, HK6.out⟩
   ·go_wp2_with fail
    simp only [Exit.jump]
    go_ret
    exact ⟨by rw [← H9.out]; rfl, HK6.out⟩
end Go.Proofs.YtbfebljahjmjfaaGreatDoor
/- filter: filters as trees, and how they lie in memory. -/
namespace Go.Proofs.YtbfebljahjmjfaaGreatDoor
open Go.RowKit Go.Shelf
set_option linter.unusedVariables false
set_option linter.unusedSimpArgs false
set_option maxRecDepth 100000

/-- A filter: its Kind, those in its Of, its Name, its Value. -/
inductive FV where
 | mk (k : Int) (l : List FV) (s v : Txt)
def FV.k : FV → Int | .mk k _ _ _ => k
def FV.l : FV → List FV | .mk _ l _ _ => l
def FV.s : FV → Txt | .mk _ _ s _ => s
def FV.v : FV → Txt | .mk _ _ _ v => v

/-- What stands in a filter's own four cells. -/
structure FH where
 k : Int
 B : Option Addr
 lb : Nat
 cb : Nat
 s : Txt
 v : Txt
def FH.list (h : FH) : List Value := [.int .i64 h.k, .slice h.B h.lb h.cb, tv h.s, tv h.v]
def FH.val (h : FH) : Value := .agg #[.int .i64 h.k, .slice h.B h.lb h.cb, tv h.s, tv h.v]

mutual
/-- Four cells, and what they point at, are a filter. -/
def FilAt (w : World) : FV → FH → Prop
 | .mk k l s v, h => h.k = k ∧ h.s = s ∧ h.v = v ∧ -9223372036854775808 ≤ k ∧ k ≤ 9223372036854775807 ∧ s.length ≤ 9223372036854775807 ∧ v.length ≤ 9223372036854775807 ∧ l.length = h.lb ∧ h.lb ≤ h.cb ∧ h.cb ≤ 9223372036854775807 ∧ FilsAt w h.B 0 l
/-- A row's filters, from the i'th on. -/
def FilsAt (w : World) (B : Option Addr) : Nat → List FV → Prop
 | _, [] => True
 | i, t :: r => (∃ b o h, B = some ⟨b, o, none⟩ ∧ (∀ j u, (FH.list h)[j]? = some u → w.cell? ⟨b, o + i * 4 + j, none⟩ = some u) ∧ FilAt w t h) ∧ FilsAt w B (i + 1) r
end

mutual
theorem FilAt.grow {w w' : World} (hk : Keeps [] w w') : ∀ (t : FV) (h : FH), FilAt w t h → FilAt w' t h
 | .mk k l s v, h, ⟨h1, h2, h3, h4, h5, h6, h7, h8, h9, h10, h11⟩ => ⟨h1, h2, h3, h4, h5, h6, h7, h8, h9, h10, FilsAt.grow hk h.B 0 l h11⟩
theorem FilsAt.grow {w w' : World} (hk : Keeps [] w w') (B : Option Addr) : ∀ (i : Nat) (l : List FV), FilsAt w B i l → FilsAt w' B i l
 | _, [], _ => trivial
 | i, t :: r, ⟨⟨b, o, h, h1, h2, h3⟩, h4⟩ => ⟨⟨b, o, h, h1, fun j u hu => (hk.cell (lt_of_cell (h2 j u hu)) (by simp)).trans (h2 j u hu), FilAt.grow hk t h h3⟩, FilsAt.grow hk B (i + 1) r h4⟩
end

theorem FilsAt.at_ {w : World} {B : Option Addr} : ∀ {i : Nat} {l : List FV}, FilsAt w B i l → ∀ (j : Nat) (t : FV), l[j]? = some t → ∃ b o h, B = some ⟨b, o, none⟩ ∧ (∀ q u, (FH.list h)[q]? = some u → w.cell? ⟨b, o + (i + j) * 4 + q, none⟩ = some u) ∧ FilAt w t h
 | _, [], _, j, t, h => by simp at h
 | i, x :: r, ⟨h1, h2⟩, 0, t, h => by
  simp at h
  subst h
  exact h1
 | i, x :: r, ⟨h1, h2⟩, j + 1, t, h => by
  have := FilsAt.at_ h2 j t (by simpa using h)
  rwa [show i + 1 + j = i + (j + 1) by omega] at this
theorem fils_of {w : World} {B : Option Addr} : ∀ {i : Nat} {l : List FV}, (∀ (j : Nat) (t : FV), l[j]? = some t → ∃ b o h, B = some ⟨b, o, none⟩ ∧ (∀ q u, (FH.list h)[q]? = some u → w.cell? ⟨b, o + (i + j) * 4 + q, none⟩ = some u) ∧ FilAt w t h) → FilsAt w B i l
 | _, [], _ => trivial
 | i, x :: r, h => ⟨h 0 x rfl, fils_of (i := i + 1) fun j t ht => by
  have := h (j + 1) t (by simpa using ht)
  rwa [show i + (j + 1) = i + 1 + j by omega] at this⟩

/-- Induction over a tree. -/
theorem FV.ind {P : FV → Prop} (h : ∀ k l s v, (∀ t ∈ l, P t) → P (.mk k l s v)) : ∀ t, P t := by
 intro t
 induction t using FV.rec (motive_2 := fun l => ∀ t ∈ l, P t) with
 | mk k l s v ih => exact h k l s v ih
 | nil => rename_i ht; cases ht
 | cons x r h1 h2 =>
  rename_i t ht
  rcases List.mem_cons.1 ht with ht | ht
  ·rw [ht]; exact h1
  ·exact h2 t ht

theorem four_at {w : World} {b o : Nat} {h : FH} (hc : ∀ q u, (FH.list h)[q]? = some u → w.cell? ⟨b, o + q, none⟩ = some u) :
  w.cell? ⟨b, o, none⟩ = some (.int .i64 h.k) ∧ w.cell? ⟨b, o + 1, none⟩ = some (.slice h.B h.lb h.cb) ∧ w.cell? ⟨b, o + 2, none⟩ = some (.string ⟨h.s.toArray⟩) ∧ w.cell? ⟨b, o + 3, none⟩ = some (.string ⟨h.v.toArray⟩) :=
 ⟨hc 0 _ rfl, hc 1 _ rfl, hc 2 _ rfl, hc 3 _ rfl⟩

theorem four_facts8 {w : World} {g : Nat} {a b c d : Value} {t : TypeId} (h : w.heap[g]? = some (.cells #[a, b, c, d] t (0, 0))) :
  (w.cell? ⟨g, 0, none⟩ = some a ∧ w.cell? ⟨g, 1, none⟩ = some b ∧ w.cell? ⟨g, 2, none⟩ = some c ∧ w.cell? ⟨g, 3, none⟩ = some d) ∧
  (w.frozen? ⟨g, 0, none⟩ = false ∧ w.frozen? ⟨g, 1, none⟩ = false ∧ w.frozen? ⟨g, 2, none⟩ = false ∧ w.frozen? ⟨g, 3, none⟩ = false) :=
 ⟨⟨cell_of_blk h 0, cell_of_blk h 1, cell_of_blk h 2, cell_of_blk h 3⟩, ⟨free_of_blk h 0, free_of_blk h 1, free_of_blk h 2, free_of_blk h 3⟩⟩
mutual
/-- How many filters are gone through, where each is to be as it is asked, none is deeper than 16, and no more than 200 are passed: none where it is given up. -/
def thruF (ok : FV → Bool) : Nat → Nat → FV → Option Nat
 | d, m, .mk k l s v => if m < 200 ∧ d ≤ 16 then (match thruL ok (d + 1) (m + 1) l with | none => none | some n => if ok (.mk k l s v) = true then some n else none) else none
def thruL (ok : FV → Bool) : Nat → Nat → List FV → Option Nat
 | _, m, [] => some m
 | d, m, t :: r => match thruF ok d m t with
  | none => none
  | some n => thruL ok d n r
end
theorem thruL_snoc (ok : FV → Bool) (d : Nat) : ∀ (l : List FV) (m : Nat) (t : FV), thruL ok d m (l ++ [t]) = match thruL ok d m l with | none => none | some n => thruF ok d n t
 | [], m, t => by
  show thruL ok d m [t] = _
  unfold thruL
  simp only [thruL]
  cases thruF ok d m t <;> rfl
 | x :: r, m, t => by
  show thruL ok d m (x :: (r ++ [t])) = _
  simp only [thruL]
  cases thruF ok d m x with
  | none => rfl
  | some n => exact thruL_snoc ok d r n t
theorem thruL_none (ok : FV → Bool) (d : Nat) : ∀ (l r : List FV) (m : Nat), thruL ok d m l = none → thruL ok d m (l ++ r) = none
 | [], r, m, h => by simp [thruL] at h
 | x :: l, r, m, h => by
  show thruL ok d m (x :: (l ++ r)) = none
  simp only [thruL] at h ⊢
  cases hx : thruF ok d m x with
  | none => rfl
  | some n =>
   rw [hx] at h
   exact thruL_none ok d l r n h
end Go.Proofs.YtbfebljahjmjfaaGreatDoor
/- filter: which filters may stand alone; pure. -/
namespace Go.Proofs.YtbfebljahjmjfaaGreatDoor
open Go.RowKit Go.Shelf
set_option linter.unusedVariables false
set_option linter.unusedSimpArgs false
set_option maxRecDepth 100000

theorem letr_low8 (c : UInt8) : letr1 (small1 c) = letr1 c := by
 have h := small1_nat c
 unfold letr1
 rw [h, Bool.eq_iff_iff]
 split <;> simp <;> omega
theorem nam_low8 (c : UInt8) : nam1 (small1 c) = nam1 c := by
 have h := small1_nat c
 unfold nam1
 rw [letr_low8, h, Bool.eq_iff_iff]
 unfold letr1
 split <;> simp <;> omega
theorem nameT_low8 (s : List UInt8) : nameT (smallL s) = nameT s := by
 have h1 : (smallL s).all nam1 = s.all nam1 := by
  unfold smallL
  rw [List.all_map]
  congr 1
  funext c
  exact nam_low8 c
 unfold nameT
 rw [h1, smallL_len]
 cases s with
 | nil => rfl
 | cons c r =>
  have h2 : (smallL (c :: r)).head? = some (small1 c) := rfl
  rw [h2]
  simp only [Option.map_some, Option.getD_some, List.head?_cons, letr_low8]
/-- An entry of one attribute with one Value. -/
theorem entOk_one (s v : Txt) : entOk [(smallL s, [v])] = (nameT s && valOk v) := by
 have h1 : ordS [v] = [v] := ordS_rise (by simp [Rise])
 have h2 : ordS [smallL s] = [smallL s] := ordS_rise (by simp [Rise])
 unfold entOk oneOk attrOk longN namesT maybeA
 simp only [List.map_cons, List.map_nil, List.all_cons, List.all_nil, List.length_cons, List.length_nil, Bool.and_true]
 rw [h1, h2, smallL_idem, nameT_low8]
 simp [Bool.and_comm]
/-- May a filter be, if those in its Of may? -/
def aloneF : FV → Bool
 | .mk k l s v => if k = 1 ∨ k = 2 then s.isEmpty && v.isEmpty else if k = 3 then s.isEmpty && (v.isEmpty && decide (l.length = 1)) else if k = 4 ∨ k = 5 then decide (l.length = 0) && (nameT s && valOk v) else if k = 6 then decide (l.length = 0) && (v.isEmpty && nameT s) else false
mutual
/-- The same filter with its Names in small letters. -/
def lowF : FV → FV
 | .mk k l s v => .mk k (lowFL l) (smallL s) v
def lowFL : List FV → List FV
 | [] => []
 | t :: r => lowF t :: lowFL r
end
theorem lowFL_map : ∀ l : List FV, lowFL l = l.map lowF
 | [] => by simp [lowFL]
 | t :: r => by simp [lowFL, lowFL_map r]
/-- May a filter be? -/
def rightF (t : FV) : Bool := (thruF aloneF 1 0 t).isSome
end Go.Proofs.YtbfebljahjmjfaaGreatDoor
/- filter: what gives up; how many filters are passed. -/
namespace Go.Proofs.YtbfebljahjmjfaaGreatDoor
open Go.RowKit Go.Shelf
set_option linter.unusedVariables false
set_option linter.unusedSimpArgs false
set_option maxRecDepth 100000

/-- A panic with an error's number. -/
abbrev gaveUp8 (n : Int) : Ending := .panicked [{ v := .iface 27 (.int .i64 n), recovered := false }]
theorem must8_yes (n : Int) (w : World) : Calls Tryz.prog 71 #[.bool true, .int .i64 n] w fun e w' => e = .returned (.tuple #[]) ∧ w = w' := by
 go_enter Tryz.func71, Tryz.ntmps71
 go_wp2_with fail
 go_end0
 exact ⟨rfl, rfl⟩
theorem must8_no (n : Int) (w : World) : Calls Tryz.prog 71 #[.bool false, .int .i64 n] w fun e w' => e = gaveUp8 n ∧ w = w' := by
 go_enter Tryz.func71, Tryz.ntmps71
 go_wp2_with fail
 exact ⟨rfl, rfl, rfl⟩
/-- The gate in memory: how many were passed, the error's number. -/
structure PassAt (w : World) (gm gn m : Nat) (n : Int) : Prop where
 many : w.heap[gm]? = some (.cells #[.int .i64 (m : Int)] 3 (0, 0))
 no : w.heap[gn]? = some (.cells #[.int .i64 n] 27 (0, 0))
 ne : gn ≠ gm
theorem PassAt.keep {w w' : World} {gm gn m : Nat} {n : Int} {bs : List Nat} (h : PassAt w gm gn m n) (hk : Keeps bs w w') (h1 : gm ∉ bs) (h2 : gn ∉ bs) : PassAt w' gm gn m n :=
 ⟨blk_keep h.many hk h1, blk_keep h.no hk h2, h.ne⟩
theorem PassAt.cells {w : World} {gm gn m : Nat} {n : Int} (h : PassAt w gm gn m n) : w.cell? ⟨gm, 0, none⟩ = some (.int .i64 (m : Int)) ∧ w.frozen? ⟨gm, 0, none⟩ = false ∧ w.cell? ⟨gn, 0, none⟩ = some (.int .i64 n) :=
 ⟨cell_of_blk h.many 0, free_of_blk h.many 0, cell_of_blk h.no 0⟩
theorem gate8_is (n : Int) (w : World) : Calls Tryz.prog 80 #[.int .i64 n] w fun e w' => e = .returned (.func (.func 134) #[] #[.pointer (some ⟨w.heap.size + 1, 0, none⟩), .pointer (some ⟨w.heap.size, 0, none⟩)]) ∧ PassAt w' (w.heap.size + 1) w.heap.size 0 n ∧ Keeps [] w w' := by
 have hmf : ∀ (fn : Fn) (first cap : Array Value) (w : World), (Instr.makeFunc fn first cap).run Tryz.prog w = .ok (.func fn first cap) w := fun _ _ _ _ => rfl
 have h1 := heap_new8 w (.cells #[.int .i64 n] 27)
 have k1 : Keeps [] w (w.alloc (.cells #[.int .i64 n] 27)) := (Keeps.refl [] w).alloc _
 have k2 : Keeps [] (w.alloc (.cells #[.int .i64 n] 27)) ((w.alloc (.cells #[.int .i64 n] 27)).alloc (.cells #[.int .i64 0] 3)) := (Keeps.refl [] _).alloc _
 have h2 := heap_new8 (w.alloc (.cells #[.int .i64 n] 27)) (.cells #[.int .i64 0] 3)
 rw [World.size_alloc] at h2
 have HP : Hid (PassAt ((w.alloc (.cells #[.int .i64 n] 27)).alloc (.cells #[.int .i64 0] 3)) (w.heap.size + 1) w.heap.size 0 n) := ⟨h2, blk_keep h1 k2 (by simp), by omega⟩
 have HK : Hid (Keeps [] w ((w.alloc (.cells #[.int .i64 n] 27)).alloc (.cells #[.int .i64 0] 3))) := k1.trans' k2
 clear h1 k1 k2 h2
 go_enter Tryz.func80, Tryz.ntmps80
 go_wp2_with fail
 go_ret
 exact ⟨rfl, HP.out, HK.out⟩
set_option maxHeartbeats 1000000 in
theorem pass8_is (d gm gn m : Nat) (n : Int) (w : World) (hd : d ≤ 1000) (hm : m ≤ 1000) (h : PassAt w gm gn m n) :
  Calls Tryz.prog 134 #[.int .i64 (d : Int), .pointer (some ⟨gm, 0, none⟩), .pointer (some ⟨gn, 0, none⟩)] w fun e w' => ((m < 200 ∧ d ≤ 16) ∧ e = .returned (.tuple #[]) ∨ ¬ (m < 200 ∧ d ≤ 16) ∧ e = gaveUp8 n) ∧ PassAt w' gm gn (m + 1) n ∧ Keeps [gm] w w' := by
 have HS : Hid (Keeps [gm] w (w.setCell ⟨gm, 0, none⟩ (.int .i64 ((m : Int) + 1)))) := (Keeps.refl [gm] w).setCell (.inl (by simp)) _
 have HQ : Hid (PassAt (w.setCell ⟨gm, 0, none⟩ (.int .i64 ((m : Int) + 1))) gm gn (m + 1) n) := by
  refine ⟨?_, blk_keep h.no HS.out (by simpa using h.ne), h.ne⟩
  have := heap_setCell_same w gm 0 _ _ (.int .i64 ((m : Int) + 1)) h.many
  rw [show (((m + 1 : Nat)) : Int) = (m : Int) + 1 by omega]
  exact this
 obtain ⟨c0, f0, c1⟩ := h.cells
 obtain ⟨x0, y0, x1⟩ := HQ.out.cells
 rw [show (((m + 1 : Nat)) : Int) = (m : Int) + 1 by omega] at x0
 have HMY := Lib.hid (must8_yes n)
 have HMN := Lib.hid (must8_no n)
 clear h
 by_cases h1 : m < 200
 ·have h1i : (m : Int) + 1 ≤ 200 := by omega
  by_cases h2 : d ≤ 16
  ·have h2i : (d : Int) ≤ 16 := by omega
   go_enter Tryz.func134, Tryz.ntmps134
   go_wp2_with fail
   refine (HMY.out _).mono ?_
   rintro e w1 ⟨rfl, rfl⟩
   go_wp2_with fail
   go_end0
   exact ⟨.inl ⟨⟨h1, h2⟩, rfl⟩, HQ.out, HS.out⟩
  ·have h2i : ¬ (d : Int) ≤ 16 := by omega
   go_enter Tryz.func134, Tryz.ntmps134
   go_wp2_with fail
   refine (HMN.out _).mono ?_
   rintro e w1 ⟨rfl, rfl⟩
   go_wp2_with fail
   exact ⟨rfl, .inr ⟨fun hh => h2 hh.2, rfl⟩, HQ.out, HS.out⟩
 ·have h1i : ¬ (m : Int) + 1 ≤ 200 := by omega
  go_enter Tryz.func134, Tryz.ntmps134
  go_wp2_with fail
  refine (HMN.out _).mono ?_
  rintro e w1 ⟨rfl, rfl⟩
  go_wp2_with fail
  exact ⟨rfl, .inr ⟨fun hh => h1 hh.1, rfl⟩, HQ.out, HS.out⟩
end Go.Proofs.YtbfebljahjmjfaaGreatDoor
/- filter: may a filter be, if those in its Of may; walked. -/
namespace Go.Proofs.YtbfebljahjmjfaaGreatDoor
open Go.RowKit Go.Shelf
set_option linter.unusedVariables false
set_option linter.unusedSimpArgs false
set_option maxRecDepth 100000

/-- One attribute with one Value, laid down. -/
theorem attr_lit8 (w : World) (s v : Txt) (hs : s.length ≤ 9223372036854775807) (hv : v.length ≤ 9223372036854775807) :
  EntIn ((w.alloc (.cells #[.string ⟨v.toArray⟩] 9)).alloc (.cells #[.string ⟨s.toArray⟩, .slice (some ⟨w.heap.size, 0, none⟩) 1 1] 70)) (some ⟨w.heap.size + 1, 0, none⟩) 1 [⟨s, some ⟨w.heap.size, 0, none⟩, 1, 1, [v]⟩] := by
 have h1 := heap_new8 w (.cells #[.string ⟨v.toArray⟩] 9)
 have k2 : Keeps [] (w.alloc (.cells #[.string ⟨v.toArray⟩] 9)) ((w.alloc (.cells #[.string ⟨v.toArray⟩] 9)).alloc (.cells #[.string ⟨s.toArray⟩, .slice (some ⟨w.heap.size, 0, none⟩) 1 1] 70)) := (Keeps.refl [] _).alloc _
 have h2 := heap_new8 (w.alloc (.cells #[.string ⟨v.toArray⟩] 9)) (.cells #[.string ⟨s.toArray⟩, .slice (some ⟨w.heap.size, 0, none⟩) 1 1] 70)
 rw [World.size_alloc] at h2
 have h3 := blk_keep h1 k2 (by simp)
 refine ⟨rfl, fun a ha => ?_, fun _ => ⟨_, 0, rfl, fun i a hi => ?_⟩⟩
 ·simp at ha
  subst ha
  refine ⟨hs, Nat.le_refl _, (by decide : 1 ≤ 9223372036854775807), rfl, fun x hx => ?_, fun _ => ⟨_, 0, rfl, fun i x hx => ?_⟩⟩
  ·simp at hx
   subst hx
   exact hv
  ·cases i with
   | zero =>
    simp at hx
    subst hx
    exact cell_of_blk h3 0
   | succ i => simp at hx
 ·cases i with
  | zero =>
   simp at hi
   subst hi
   exact ⟨cell_of_blk h2 0, cell_of_blk h2 1⟩
  | succ i => simp at hi
theorem isattr8_is (s v : Txt) (w : World) (hs : s.length ≤ 9223372036854775807) (hv : v.length ≤ 9223372036854775807) :
  Calls Tryz.prog 133 #[tv s, tv v] w fun e w' => e = .returned (.bool (nameT s && valOk v)) ∧ Keeps [] w w' := by
 have HSM := Lib.hid (small_is s w hs)
 have HCK := Lib.hid (fun (X : World) => check7_is (some ⟨X.heap.size + 1, 0, none⟩) 1 1 [⟨smallL s, some ⟨X.heap.size, 0, none⟩, 1, 1, [v]⟩] _ (attr_lit8 X (smallL s) v (by rw [smallL_len]; exact hs) hv) ⟨by simp, by simp⟩)
 have he : ∀ A : Option Addr, ents [⟨smallL s, A, 1, 1, [v]⟩] = [(smallL s, [v])] := fun _ => rfl
 simp only [he, entOk_one] at HCK
 obtain ⟨q, hq⟩ : ∃ q, (nameT s && valOk v) = q := ⟨_, rfl⟩
 rw [hq] at HCK ⊢
 generalize smallL s = z at HSM HCK
 clear hq he
 unfold tv
 go_enter Tryz.func133, Tryz.ntmps133
 go_wp2_with fail
 refine HSM.out.mono ?_
 rintro e w1 ⟨rfl, hk1⟩
 have HK1 := Lib.hid hk1
 have HK2 : Hid (Keeps [] w ((w1.alloc (.cells #[.string ⟨v.toArray⟩] 9)).alloc (.cells #[.string ⟨z.toArray⟩, .slice (some ⟨w1.heap.size, 0, none⟩) 1 1] 70))) := (hk1.alloc _).alloc _
 clear hk1
 go_wp2_with fail
 refine (HCK.out w1).mono ?_
 rintro e w2 ⟨rfl, hk2⟩
 have HK3 := Lib.hid (HK2.out.trans' hk2)
 clear hk2
 cases q
 ·go_wp2_with fail
  go_ret
  exact ⟨rfl, HK3.out⟩
 ·go_wp2_with fail
  go_ret
  exact ⟨rfl, HK3.out⟩
/-- The same as aloneF, told by what stands in a filter's own cells. -/
def aloneH (k : Int) (n : Nat) (s v : Txt) : Bool :=
 if k = 1 ∨ k = 2 then s.isEmpty && v.isEmpty else if k = 3 then s.isEmpty && (v.isEmpty && decide (n = 1)) else if k = 4 ∨ k = 5 then decide (n = 0) && (nameT s && valOk v) else if k = 6 then decide (n = 0) && (v.isEmpty && nameT s) else false
theorem aloneF_is (k : Int) (l : List FV) (s v : Txt) : aloneF (.mk k l s v) = aloneH k l.length s v := rfl
set_option maxHeartbeats 4000000 in
theorem maybe8_is (h : FH) (w : World) (hs : h.s.length ≤ 9223372036854775807) (hv : h.v.length ≤ 9223372036854775807) :
  Calls Tryz.prog 78 #[h.val] w fun e w' => e = .returned (.bool (aloneH h.k h.lb h.s h.v)) ∧ Keeps [] w w' := by
 obtain ⟨k, B, n, c, s, v⟩ := h
 dsimp only at hs hv ⊢
 have HAT := Lib.hid (fun X => isattr8_is s v X hs hv)
 have HAN := Lib.hid (fun X => isattr8_is s [97, 110, 121] X hs (by simp))
 have HK : Hid (Keeps [] w (w.alloc (.cells #[.int .i64 k, .slice B n c, .string ⟨s.toArray⟩, .string ⟨v.toArray⟩] 26))) := (Keeps.refl [] w).alloc _
 obtain ⟨P, hP⟩ : ∃ P, aloneH k n s v = P := ⟨_, rfl⟩
 have HP := Lib.hid hP
 rw [hP]
 clear hP
 unfold aloneH at HP
 have han : (nameT s && valOk [97, 110, 121]) = nameT s := by rw [show valOk [97, 110, 121] = true by decide, Bool.and_true]
 rw [han] at HAN
 have hse : (s == ([] : Txt)) = s.isEmpty := by cases s <;> rfl
 have hve : (v == ([] : Txt)) = v.isEmpty := by cases v <;> rfl
 obtain ⟨hs1, hs2, hs3⟩ := tx_beq s [] s.isEmpty hse
 obtain ⟨hv1, hv2, hv3⟩ := tx_beq v [] v.isEmpty hve
 obtain ⟨q1, hq1⟩ : ∃ q, (nameT s && valOk v) = q := ⟨_, rfl⟩
 obtain ⟨q2, hq2⟩ : ∃ q, nameT s = q := ⟨_, rfl⟩
 rw [hq1] at HP HAT
 rw [hq2] at HP HAN
 unfold FH.val tv at *
 clear hq1 hq2 han hse hve hs hv
 obtain ⟨a, ha⟩ : ∃ a, s.isEmpty = a := ⟨_, rfl⟩
 obtain ⟨b, hb⟩ : ∃ b, v.isEmpty = b := ⟨_, rfl⟩
 rw [ha] at HP hs1 hs2 hs3
 rw [hb] at HP hv1 hv2 hv3
 by_cases hk1 : k = 1
 ·subst hk1
  rw [if_pos (by simp)] at HP
  cases a
  ·go_enter Tryz.func78, Tryz.ntmps78
   go_wp2_with fail
   go_ret
   rw [← HP.out]
   exact ⟨by simp, HK.out⟩
  ·cases b
   ·go_enter Tryz.func78, Tryz.ntmps78
    go_wp2_with fail
    go_ret
    rw [← HP.out]
    exact ⟨by simp, HK.out⟩
   ·go_enter Tryz.func78, Tryz.ntmps78
    go_wp2_with fail
    go_ret
    rw [← HP.out]
    exact ⟨by simp, HK.out⟩
 have hkb1 : (k == 1) = false := by simpa using hk1
 by_cases hk2 : k = 2
 ·subst hk2
  rw [if_pos (by simp)] at HP
  cases a
  ·go_enter Tryz.func78, Tryz.ntmps78
   go_wp2_with fail
   go_ret
   rw [← HP.out]
   exact ⟨by simp, HK.out⟩
  ·cases b
   ·go_enter Tryz.func78, Tryz.ntmps78
    go_wp2_with fail
    go_ret
    rw [← HP.out]
    exact ⟨by simp, HK.out⟩
   ·go_enter Tryz.func78, Tryz.ntmps78
    go_wp2_with fail
    go_ret
    rw [← HP.out]
    exact ⟨by simp, HK.out⟩
 have hkb2 : (k == 2) = false := by simpa using hk2
 by_cases hk3 : k = 3
 ·subst hk3
  rw [if_neg (by simp), if_pos rfl] at HP
  cases a
  ·go_enter Tryz.func78, Tryz.ntmps78
   go_wp2_with fail
   go_ret
   rw [← HP.out]
   exact ⟨by simp, HK.out⟩
  ·cases b
   ·go_enter Tryz.func78, Tryz.ntmps78
    go_wp2_with fail
    go_ret
    rw [← HP.out]
    exact ⟨by simp, HK.out⟩
   ·by_cases hn : n = 1
    ·subst hn
     go_enter Tryz.func78, Tryz.ntmps78
     go_wp2_with fail
     go_ret
     rw [← HP.out]
     exact ⟨by simp, HK.out⟩
    ·have hni : ¬ (n : Int) = 1 := by omega
     have hnb : ((n : Int) == 1) = false := by simpa using hni
     rw [show decide (n = 1) = false by simpa using hn] at HP
     go_enter Tryz.func78, Tryz.ntmps78
     go_wp2_with fail
     go_ret
     rw [← HP.out]
     exact ⟨by simp, HK.out⟩
 have hkb3 : (k == 3) = false := by simpa using hk3
 by_cases hk4 : k = 4
 ·subst hk4
  rw [if_neg (by simp), if_neg (by simp), if_pos (by simp)] at HP
  by_cases hn : n = 0
  ·subst hn
   go_enter Tryz.func78, Tryz.ntmps78
   go_wp2_with fail
   refine (HAT.out _).mono ?_
   rintro e w1 ⟨rfl, hk1⟩
   have HK1 := Lib.hid (HK.out.trans' hk1)
   clear hk1
   go_wp2_with fail
   go_ret
   rw [← HP.out]
   exact ⟨by simp, HK1.out⟩
  ·have hni : ¬ (n : Int) = 0 := by omega
   have hnb : ((n : Int) == 0) = false := by simpa using hni
   rw [show decide (n = 0) = false by simpa using hn] at HP
   go_enter Tryz.func78, Tryz.ntmps78
   go_wp2_with fail
   go_ret
   rw [← HP.out]
   exact ⟨by simp, HK.out⟩
 have hkb4 : (k == 4) = false := by simpa using hk4
 by_cases hk5 : k = 5
 ·subst hk5
  rw [if_neg (by simp), if_neg (by simp), if_pos (by simp)] at HP
  by_cases hn : n = 0
  ·subst hn
   go_enter Tryz.func78, Tryz.ntmps78
   go_wp2_with fail
   refine (HAT.out _).mono ?_
   rintro e w1 ⟨rfl, hk1⟩
   have HK1 := Lib.hid (HK.out.trans' hk1)
   clear hk1
   go_wp2_with fail
   go_ret
   rw [← HP.out]
   exact ⟨by simp, HK1.out⟩
  ·have hni : ¬ (n : Int) = 0 := by omega
   have hnb : ((n : Int) == 0) = false := by simpa using hni
   rw [show decide (n = 0) = false by simpa using hn] at HP
   go_enter Tryz.func78, Tryz.ntmps78
   go_wp2_with fail
   go_ret
   rw [← HP.out]
   exact ⟨by simp, HK.out⟩
 have hkb5 : (k == 5) = false := by simpa using hk5
 by_cases hk6 : k = 6
 ·subst hk6
  rw [if_neg (by simp), if_neg (by simp), if_neg (by simp), if_pos rfl] at HP
  by_cases hn : n = 0
  ·subst hn
   cases b
   ·go_enter Tryz.func78, Tryz.ntmps78
    go_wp2_with fail
    go_ret
    rw [← HP.out]
    exact ⟨by simp, HK.out⟩
   ·go_enter Tryz.func78, Tryz.ntmps78
    go_wp2_with fail
    refine (HAN.out _).mono ?_
    rintro e w1 ⟨rfl, hk1⟩
    have HK1 := Lib.hid (HK.out.trans' hk1)
    clear hk1
    go_wp2_with fail
    go_ret
    rw [← HP.out]
    exact ⟨by simp, HK1.out⟩
  ·have hni : ¬ (n : Int) = 0 := by omega
   have hnb : ((n : Int) == 0) = false := by simpa using hni
   rw [show decide (n = 0) = false by simpa using hn] at HP
   go_enter Tryz.func78, Tryz.ntmps78
   go_wp2_with fail
   go_ret
   rw [← HP.out]
   exact ⟨by simp, HK.out⟩
 have hkb6 : (k == 6) = false := by simpa using hk6
 rw [if_neg (by simp; omega), if_neg hk3, if_neg (by simp; omega), if_neg hk6] at HP
 go_enter Tryz.func78, Tryz.ntmps78
 go_wp2_with fail
 go_ret
 rw [← HP.out]
 exact ⟨by simp, HK.out⟩
end Go.Proofs.YtbfebljahjmjfaaGreatDoor
