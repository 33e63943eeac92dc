import Derived.Test.YtbfebljahjmjfaaGreatDoorQ38
import Derived.Test.YtbfebljahjmjfaaGreatDoorQ32
import Derived.BigQuiet
import Derived.LoopN
/- filter: readValue as words; what a round of its closure finds. -/
namespace Go.Proofs.YtbfebljahjmjfaaGreatDoor
open Go.RowKit Go.Shelf
set_option linter.unusedVariables false
set_option linter.unusedSimpArgs false
set_option maxRecDepth 100000

/-- The kind whose values have that Num. -/
def kindN (n : Nat) : Int := if n = 0 then 1 else if n = 1 then 2 else if n = 2 then 3 else if n = 3 then 4 else if n = 4 then 5 else if n = 7 then 6 else 0
theorem kindN_in (n : Nat) : 0 ≤ kindN n ∧ kindN n ≤ 6 := by
 unfold kindN
 repeat' split
 all_goals omega
mutual
/-- What filter a value says, by a gate: none where it gives up. -/
def rvF : Nat → Nat → BV → Option (FV × Nat)
 | d, m, .mk c n k b l => if m < 200 ∧ d ≤ 16 then (if n = 7 then some (.mk 6 [] b [], m + 1) else if n = 3 then (match l with
   | x :: y :: _ => some (.mk 4 [] x.b y.b, m + 1)
   | _ => none) else if n = 4 then (match l with
   | x :: y :: _ => (match y.l with
    | z :: _ => some (.mk 5 [] x.b z.b, m + 1)
    | _ => none)
   | _ => none) else match rvL (d + 1) (m + 1) l with
   | none => none
   | some (fs, n') => some (.mk (kindN n) fs [] [], n')) else none
def rvL : Nat → Nat → List BV → Option (List FV × Nat)
 | _, m, [] => some ([], m)
 | d, m, t :: r => match rvF d m t with
  | none => none
  | some (x, n) => match rvL d n r with
   | none => none
   | some (xs, n') => some (x :: xs, n')
end
mutual
/-- No value in it is one whose filter is not walked yet. -/
def mildB : BV → Bool
 | .mk c n k b l => n != 3 && n != 4 && mildBL l
def mildBL : List BV → Bool
 | [] => true
 | t :: r => mildB t && mildBL r
end
theorem mildBL_mem : ∀ (l : List BV) (t : BV), mildBL l = true → t ∈ l → mildB t = true
 | x :: r, t, h, hm => by
  simp only [mildBL, Bool.and_eq_true] at h
  rcases List.mem_cons.1 hm with hm | hm
  ·subst hm; exact h.1
  ·exact mildBL_mem r t h.2 hm
theorem mildB_num {c n : Nat} {k : Bool} {b : List UInt8} {l : List BV} (h : mildB (.mk c n k b l) = true) : n ≠ 3 ∧ n ≠ 4 ∧ mildBL l = true := by
 simp only [mildB, Bool.and_eq_true, bne_iff_ne, ne_eq] at h
 exact ⟨h.1.1, h.1.2, h.2⟩
theorem rvF_off {d m : Nat} {t : BV} (h : ¬ (m < 200 ∧ d ≤ 16)) : rvF d m t = none := by
 obtain ⟨c, n, k, b, l⟩ := t
 unfold rvF
 rw [if_neg h]
theorem rvF_has {d m c : Nat} {k : Bool} {b : List UInt8} {l : List BV} (h : m < 200 ∧ d ≤ 16) : rvF d m (.mk c 7 k b l) = some (.mk 6 [] b [], m + 1) := by
 unfold rvF
 rw [if_pos h, if_pos rfl]
theorem rvF_many {d m c n : Nat} {k : Bool} {b : List UInt8} {l : List BV} (h : m < 200 ∧ d ≤ 16) (h7 : n ≠ 7) (h3 : n ≠ 3) (h4 : n ≠ 4) : rvF d m (.mk c n k b l) = match rvL (d + 1) (m + 1) l with
   | none => none
   | some (fs, n') => some (.mk (kindN n) fs [] [], n') := by
 unfold rvF
 rw [if_pos h, if_neg h7, if_neg h3, if_neg h4]
theorem rvL_snoc (d : Nat) : ∀ (l : List BV) (m : Nat) (t : BV), rvL d m (l ++ [t]) = match rvL d m l with
   | none => none
   | some (fs, n) => match rvF d n t with
    | none => none
    | some (x, n') => some (fs ++ [x], n')
 | [], m, t => by
  show rvL d m [t] = _
  simp only [rvL]
  cases rvF d m t <;> rfl
 | x :: r, m, t => by
  show rvL d m (x :: (r ++ [t])) = _
  simp only [rvL]
  cases hx : rvF d m x with
  | none => rfl
  | some p =>
   obtain ⟨y, n⟩ := p
   dsimp only
   rw [rvL_snoc d r n t]
   cases rvL d n r with
   | none => rfl
   | some q =>
    obtain ⟨ys, n2⟩ := q
    dsimp only
    cases rvF d n2 t <;> rfl
theorem rvL_none (d : Nat) : ∀ (l r : List BV) (m : Nat), rvL d m l = none → rvL d m (l ++ r) = none
 | [], r, m, h => by simp [rvL] at h
 | x :: l, r, m, h => by
  show rvL d m (x :: (l ++ r)) = none
  simp only [rvL] at h ⊢
  cases hx : rvF d m x with
  | none => rfl
  | some p =>
   obtain ⟨y, n⟩ := p
   rw [hx] at h
   dsimp only at h ⊢
   cases hq : rvL d n l with
   | none => rw [rvL_none d l r n hq]
   | some q => rw [hq] at h; cases h
mutual
theorem rvF_le : ∀ (t : BV) (d m n : Nat) (x : FV), rvF d m t = some (x, n) → m + 1 ≤ n ∧ m < 200 ∧ d ≤ 16 ∧ n ≤ 200
 | .mk c nu k b l, d, m, n, x, h => by
  unfold rvF at h
  split at h
  ·rename_i hc
   split at h
   ·injection h with h; injection h with _ h; omega
   ·split at h
    ·split at h
     ·injection h with h; injection h with _ h; omega
     ·cases h
    ·split at h
     ·split at h
      ·split at h
       ·injection h with h; injection h with _ h; omega
       ·cases h
      ·cases h
     ·cases hq : rvL (d + 1) (m + 1) l with
      | none => rw [hq] at h; cases h
      | some p =>
       obtain ⟨fs, n'⟩ := p
       rw [hq] at h
       dsimp only at h
       injection h with h; injection h with _ h
       have := rvL_le l (d + 1) (m + 1) n' fs hq
       omega
  ·cases h
theorem rvL_le : ∀ (l : List BV) (d m n : Nat) (xs : List FV), rvL d m l = some (xs, n) → m + l.length ≤ n ∧ (m ≤ 200 → n ≤ 200) ∧ xs.length = l.length
 | [], d, m, n, xs, h => by
  simp only [rvL] at h
  injection h with h; injection h with h1 h2; subst h1 h2
  exact ⟨Nat.le_refl _, id, rfl⟩
 | t :: r, d, m, n, xs, h => by
  simp only [rvL] at h
  cases hq : rvF d m t with
  | none => rw [hq] at h; cases h
  | some p =>
   obtain ⟨y, n1⟩ := p
   rw [hq] at h
   dsimp only at h
   cases hr : rvL d n1 r with
   | none => rw [hr] at h; cases h
   | some q =>
    obtain ⟨ys, n2⟩ := q
    rw [hr] at h
    dsimp only at h
    injection h with h; injection h with h1 h2; subst h1 h2
    have h3 := rvF_le t d m n1 y hq
    have h4 := rvL_le r d n1 n2 ys hr
    simp only [List.length_cons]
    omega
end
/-- What does not turn: what readValue's closure holds. -/
structure EnvV (gp gx gm gn : Nat) (w : World) : Prop where
 pass : w.cell? ⟨gp, 0, none⟩ = some (.func (.func 134) #[] #[.pointer (some ⟨gm, 0, none⟩), .pointer (some ⟨gn, 0, none⟩)])
 next : w.cell? ⟨gx, 0, none⟩ = some (.func (.func 141) #[] #[.pointer (some ⟨gp, 0, none⟩), .pointer (some ⟨gx, 0, none⟩)])
 n1 : gp ≠ gm
 n3 : gx ≠ gm
theorem EnvV.keep {gp gx gm gn : Nat} {w w' : World} (h : EnvV gp gx gm gn w) (hk : Keeps [gm] w w') : EnvV gp gx gm gn w' :=
 ⟨(hk.cell (p := ⟨gp, 0, none⟩) (lt_of_cell h.pass) (by simp; exact h.n1)).trans h.pass, (hk.cell (p := ⟨gx, 0, none⟩) (lt_of_cell h.next) (by simp; exact h.n3)).trans h.next, h.n1, h.n3⟩
/-- How readValue's closure ends. -/
def RvQ (d m : Nat) (t : BV) (gm gn : Nat) (w : World) (e : Ending) (w' : World) : Prop :=
 ((∃ x n h, rvF d m t = some (x, n) ∧ e = .returned (FH.val h) ∧ PassAt w' gm gn n 180 ∧ ∀ (E : List Nat) X, (∀ x ∈ E, x < w.heap.size) → Keeps E w' X → FilAt X x h) ∨ rvF d m t = none ∧ e = gaveUp8 180) ∧ Keeps [gm] w w'
/-- What a round finds. -/
structure RvS (w wr : World) (gm gn B : Nat) (k : Int) (s v : Txt) (A : Option Addr) (j c : Nat) (hs : List FH) (l : List FV) (n : Nat) : Prop where
 pass : PassAt wr gm gn n 180
 box : wr.heap[B]? = some (.cells #[.int .i64 k, .slice A j c, .string ⟨s.toArray⟩, .string ⟨v.toArray⟩] 26 (0, 0))
 res : wr.heap[w.heap.size + 1]? = some (.cells #[.int .i64 0, .slice none 0 0, .string ⟨#[]⟩, .string ⟨#[]⟩] 26 (0, 0))
 row : wr.ownsRow (B + 1) 26 4 (.slice A j c) j (headsF hs)
 hsl : hs.length = j
 lsl : l.length = j
 items : ∀ (E : List Nat) X, (∀ x ∈ E, x < B + 1 ∨ (Value.slice A j c).ownBlock = some x) → Keeps E wr X → ∀ (i : Nat) (t : FV) (h : FH), l[i]? = some t → hs[i]? = some h → FilAt X t h
 keep : Keeps [gm] w wr
 lo : w.heap.size + 1 < B
 nle : n ≤ 200
 jn : j ≤ n
theorem RvS.step {w wr w6 w7 w8 : World} {gm gn B : Nat} {k : Int} {s v : Txt} {A A8 : Option Addr} {j c c8 : Nat} {hs : List FH} {l : List FV} {n n' : Nat} (H : RvS w wr gm gn B k s v A j c hs l n) (hgm : gm < w.heap.size) (hgn : gn < w.heap.size)
  {t : FV} {h : FH} (k6 : Keeps [gm] wr w6) (hp6 : PassAt w6 gm gn n' 180) (hp : ∀ (E : List Nat) X, (∀ x ∈ E, x < wr.heap.size) → Keeps E w6 X → FilAt X t h) (hn : n < n') (hn2 : n' ≤ 200) (k7 : Keeps [] w6 w7)
  (ho : w8.ownsRow (B + 1) 26 4 (.slice A8 (j + 1) c8) (j + 1) (headsF hs ++ h.list)) (hg : w7.grownBy w8 (Value.slice A j c).ownBlock) (hs8 : (Value.slice A8 (j + 1) c8).ownBlock = (Value.slice A j c).ownBlock ∨ (Value.slice A8 (j + 1) c8).ownBlock = some w7.heap.size) :
  RvS w (w8.setCell ⟨B, 1, none⟩ (.slice A8 (j + 1) c8)) gm gn B k s v A8 (j + 1) c8 (hs ++ [h]) (l ++ [t]) n' := by
 have hz6 := k6.size
 have hz7 := k7.size
 have hlo := H.lo
 have hjn := H.jn
 have hBr : B < wr.heap.size := lt_of_heap H.box
 have k8 : Keeps (Value.slice A j c).ownBlock.toList w7 w8 := Keeps.of_grown hg (fun x hx => .inl (by rw [hx]; simp))
 have hz8 := k8.size
 have k9 : Keeps [B] w8 (w8.setCell ⟨B, 1, none⟩ (.slice A8 (j + 1) c8)) := (Keeps.refl [B] w8).setCell (.inl (by simp)) _
 have hvl : ∀ x ∈ (Value.slice A j c).ownBlock.toList, B + 1 ≤ x ∧ x < wr.heap.size := fun x hx => H.row.lt x (by simpa using hx)
 have k68 : Keeps (Value.slice A j c).ownBlock.toList w6 w8 := (k7.mono (by simp)).trans k8 (fun x hx => .inl hx)
 have k69 : Keeps (B :: (Value.slice A j c).ownBlock.toList) w6 (w8.setCell ⟨B, 1, none⟩ (.slice A8 (j + 1) c8)) := (k68.mono (fun x hx => .inl (List.mem_cons_of_mem _ hx))).trans k9 (fun x hx => .inl (by simp at hx; simp [hx]))
 have kr9 : Keeps (gm :: B :: (Value.slice A j c).ownBlock.toList) wr (w8.setCell ⟨B, 1, none⟩ (.slice A8 (j + 1) c8)) := (k6.mono (cs := gm :: B :: (Value.slice A j c).ownBlock.toList) (fun x hx => .inl (by simp at hx ⊢; simp [hx]))).trans k69 (fun x hx => .inl (by simp at hx ⊢; rcases hx with hx | hx <;> simp [hx]))
 have hnb : ∀ x, x ≤ B → x ∉ (Value.slice A j c).ownBlock.toList := fun x hx hm => by have := hvl x hm; omega
 have hnb2 : ∀ x, x < B → x ∉ B :: (Value.slice A j c).ownBlock.toList := fun x hx hm => by
  rcases List.mem_cons.1 hm with hm | hm
  ·omega
  ·exact hnb x (by omega) hm
 have hbox8 : w8.heap[B]? = some (.cells #[.int .i64 k, .slice A j c, .string ⟨s.toArray⟩, .string ⟨v.toArray⟩] 26 (0, 0)) := blk_keep (blk_keep H.box k6 (by simp; omega)) k68 (hnb B (Nat.le_refl _))
 refine ⟨hp6.keep k69 (hnb2 gm (by omega)) (hnb2 gn (by omega)), heap_setCell_same w8 B 1 _ _ _ hbox8, blk_keep (blk_keep H.res k6 (by simp; omega)) k69 (hnb2 _ hlo), ?_, by simp [H.hsl], by simp [H.lsl], fun E X hE hk i t' h' ht' hh' => ?_, H.keep.trans kr9 (fun x hx => ?_), hlo, hn2, by omega⟩
 ·rw [headsF_snoc]
  exact own_keep ho k9 (fun b hb hm => by have := (ho.lt b hb).1; simp at hm; omega)
 ·have hcase : ∀ x ∈ E, x < wr.heap.size ∨ w7.heap.size ≤ x := fun x hx => by
   rcases hE x hx with h9 | h9
   ·exact .inl (by omega)
   ·rcases hs8 with h10 | h10
    ·rw [h10] at h9
     exact .inl (hvl x (by rw [h9]; simp)).2
    ·rw [h10] at h9
     injection h9 with h9
     exact .inr (by omega)
  have hold : ∀ x ∈ E, x < wr.heap.size → x < B + 1 ∨ (Value.slice A j c).ownBlock = some x := fun x hx hlt => by
   rcases hE x hx with h9 | h9
   ·exact .inl h9
   ·rcases hs8 with h10 | h10
    ·rw [h10] at h9; exact .inr h9
    ·rw [h10] at h9
     injection h9 with h9
     omega
  by_cases hj : i < j
  ·rw [List.getElem?_append_left (by rw [H.lsl]; exact hj)] at ht'
   rw [List.getElem?_append_left (by rw [H.hsl]; exact hj)] at hh'
   have kX : Keeps ((gm :: B :: (Value.slice A j c).ownBlock.toList) ++ E.filter (fun x => decide (x < wr.heap.size))) wr X := by
    have k10 : Keeps ((gm :: B :: (Value.slice A j c).ownBlock.toList) ++ E.filter (fun x => decide (x < wr.heap.size))) wr _ := kr9.mono (fun x hx => .inl (List.mem_append_left _ hx))
    refine k10.trans hk (fun x hx => ?_)
    rcases hcase x hx with h9 | h9
    ·exact .inl (List.mem_append_right _ (List.mem_filter.2 ⟨hx, by simpa using h9⟩))
    ·exact .inr (by omega)
   refine H.items _ X (fun x hx => ?_) kX i t' h' ht' hh'
   rcases List.mem_append.1 hx with hx | hx
   ·simp only [List.mem_cons] at hx
    rcases hx with hx | hx | hx
    ·exact .inl (by omega)
    ·exact .inl (by omega)
    ·exact .inr (by simpa using hx)
   ·obtain ⟨h9, h10⟩ := List.mem_filter.1 hx
    exact hold x h9 (by simpa using h10)
  ·have hja : i = j := by
    have := (List.getElem?_eq_some_iff.1 ht').1
    simp [H.lsl] at this
    omega
   subst hja
   rw [List.getElem?_append_right (by rw [H.lsl]; exact Nat.le_refl _), H.lsl] at ht'
   rw [List.getElem?_append_right (by rw [H.hsl]; exact Nat.le_refl _), H.hsl] at hh'
   simp at ht' hh'
   subst ht' hh'
   have kX : Keeps ((B :: (Value.slice A i c).ownBlock.toList) ++ E.filter (fun x => decide (x < wr.heap.size))) w6 X := by
    have k10 : Keeps ((B :: (Value.slice A i c).ownBlock.toList) ++ E.filter (fun x => decide (x < wr.heap.size))) w6 _ := k69.mono (fun x hx => .inl (List.mem_append_left _ hx))
    refine k10.trans hk (fun x hx => ?_)
    rcases hcase x hx with h9 | h9
    ·exact .inl (List.mem_append_right _ (List.mem_filter.2 ⟨hx, by simpa using h9⟩))
    ·exact .inr (by show w6.heap.size ≤ x; omega)
   refine hp _ X (fun x hx => ?_) kX
   rcases List.mem_append.1 hx with hx | hx
   ·rcases List.mem_cons.1 hx with hx | hx
    ·omega
    ·have := (hvl x hx).2; omega
   ·have : x < wr.heap.size := by simpa using (List.mem_filter.1 hx).2
    omega
 ·simp only [List.mem_cons] at hx
  rcases hx with hx | hx | hx
  ·exact .inl (by simp [hx])
  ·exact .inr (by omega)
  ·exact .inr (by have := (hvl x hx).1; omega)
/-- What the end leaves: the filter as it is told. -/
theorem RvS.fin {w wr : World} {gm gn B : Nat} {k : Int} {s v : Txt} {A : Option Addr} {j c : Nat} {hs : List FH} {l : List FV} {n : Nat} (H : RvS w wr gm gn B k s v A j c hs l n) {w3 : World} (k3 : Keeps [w.heap.size + 1] wr w3) (hk : -9223372036854775808 ≤ k ∧ k ≤ 9223372036854775807) (hs9 : s.length ≤ 9223372036854775807) (hv9 : v.length ≤ 9223372036854775807) :
  ∀ (E : List Nat) X, (∀ x ∈ E, x < w.heap.size) → Keeps E w3 X → FilAt X (.mk k l s v) ⟨k, A, j, c, s, v⟩ := fun E X hE hX => by
 have hlo := H.lo
 have hB := lt_of_heap H.box
 have kX : Keeps ((w.heap.size + 1) :: E) wr X := (k3.mono (cs := (w.heap.size + 1) :: E) (fun x hx => .inl (by simp at hx; simp [hx]))).trans hX (fun x hx => .inl (by simp [hx]))
 have hrow := own_keep H.row kX (fun b hb hm => by
  have h9 := (H.row.lt b hb).1
  simp only [List.mem_cons] at hm
  rcases hm with hm | hm
  ·omega
  ·have := hE b hm; omega)
 have hcap := cap_of_own hrow
 refine ⟨rfl, rfl, rfl, hk.1, hk.2, hs9, hv9, H.lsl, hcap.1, hcap.2, fils_own hrow H.hsl H.lsl (fun i t' h' ht' hh' => H.items ((w.heap.size + 1) :: E) X (fun x hx => ?_) kX i t' h' ht' hh')⟩
 simp only [List.mem_cons] at hx
 rcases hx with hx | hx
 ·exact .inl (by omega)
 ·exact .inl (by have := hE x hx; omega)
theorem RvS.grow {w wr X : World} {gm gn B : Nat} {k : Int} {s v : Txt} {A : Option Addr} {j c : Nat} {hs : List FH} {l : List FV} {n : Nat} (H : RvS w wr gm gn B k s v A j c hs l n) (hX : Keeps [] wr X) : RvS w X gm gn B k s v A j c hs l n :=
 ⟨H.pass.keep hX (by simp) (by simp), blk_keep H.box hX (by simp), blk_keep H.res hX (by simp), own_keep H.row hX (fun b hb hm => by cases hm), H.hsl, H.lsl, fun E Y hE hk => H.items E Y hE ((hX.mono (cs := E) (by simp)).trans hk (fun x hx => .inl hx)), H.keep.trans' (hX.mono (by simp)), H.lo, H.nle, H.jn⟩
end Go.Proofs.YtbfebljahjmjfaaGreatDoor
/- filter: kindOf; bytesAt where no place is named; walked. -/
namespace Go.Proofs.YtbfebljahjmjfaaGreatDoor
open Go.RowKit Go.Shelf
set_option linter.unusedVariables false
set_option linter.unusedSimpArgs false
set_option maxRecDepth 100000

/-- The Num of a kind's values. -/
def numK (k : Nat) : Nat := if k = 6 then 7 else k - 1
set_option maxHeartbeats 8000000 in
theorem kindof8_is (n : Nat) (hn : n < 256) (w : World) (hN : NumsAt w) :
  Calls Tryz.prog 142 #[.int .u8 (n : Int)] w fun e w' => e = .returned (.int .i64 (kindN n)) ∧ Keeps [] w w' := by
 obtain ⟨c1, c2, c3, c4, c5, c6⟩ := hN
 have HNN := Lib.hid hn
 obtain ⟨z, hz⟩ : ∃ z : Int, (n : Int) = z := ⟨_, rfl⟩
 have HZ := Lib.hid hz
 rw [hz]
 clear hn hz
 go_enter Tryz.func142, Tryz.ntmps142
 go_wp2_with fail
 go_loopw [3] (fun a wr => ∃ k : Nat, a = .int .i64 (k : Int) ∧ 1 ≤ k ∧ k ≤ 7 ∧ wr = w ∧ Hid (∀ i : Nat, 1 ≤ i → i < k → numK i ≠ n)) (fun a _ => 7 - (intOf a).toNat)
 case atStart => exact ⟨1, by go_num, by omega, by omega, (by first | rfl | trivial), fun i h1 h2 => by omega⟩
 case round =>
  obtain ⟨k, rfl, hk1, hk7, rfl, HNE⟩ := hrel
  by_cases hk : k ≤ 6
  ·have hki : (k : Int) ≤ 6 := by omega
   have hk6 : k = 1 ∨ k = 2 ∨ k = 3 ∨ k = 4 ∨ k = 5 ∨ k = 6 := by omega
   rcases hk6 with rfl | rfl | rfl | rfl | rfl | rfl
   ·by_cases he : z = 0
    ·have HKN : Hid (kindN n = 1) := by
      have h9 := HZ.out
      rw [show n = 0 by omega]
      rfl
     subst he
     go_wp2_with fail
     go_ret
     rw [HKN.out]
     exact ⟨rfl, Keeps.refl _ _⟩
    ·have heb : ((0 : Int) == z) = false := by simpa using fun h => he h.symm
     have heb2 : ¬ (0 : Int) = z := fun h => he h.symm
     have HNE2 : Hid (∀ i : Nat, 1 ≤ i → i < 2 → numK i ≠ n) := fun i h1 h2 => by
      by_cases h3 : i = 1
      ·subst h3
       have h9 := HZ.out
       have h8 : numK 1 = 0 := rfl
       omega
      ·exact HNE.out i h1 (by omega)
     go_wp2_with fail
     go_roundw
     case rel => exact ⟨2, by go_num, by omega, by omega, (by first | rfl | trivial), HNE2.out⟩
     case measure => simp [intOf]
   ·by_cases he : z = 1
    ·have HKN : Hid (kindN n = 2) := by
      have h9 := HZ.out
      rw [show n = 1 by omega]
      rfl
     subst he
     go_wp2_with fail
     go_ret
     rw [HKN.out]
     exact ⟨rfl, Keeps.refl _ _⟩
    ·have heb : ((1 : Int) == z) = false := by simpa using fun h => he h.symm
     have heb2 : ¬ (1 : Int) = z := fun h => he h.symm
     have HNE2 : Hid (∀ i : Nat, 1 ≤ i → i < 3 → numK i ≠ n) := fun i h1 h2 => by
      by_cases h3 : i = 2
      ·subst h3
       have h9 := HZ.out
       have h8 : numK 2 = 1 := rfl
       omega
      ·exact HNE.out i h1 (by omega)
     go_wp2_with fail
     go_roundw
     case rel => exact ⟨3, by go_num, by omega, by omega, (by first | rfl | trivial), HNE2.out⟩
     case measure => simp [intOf]
   ·by_cases he : z = 2
    ·have HKN : Hid (kindN n = 3) := by
      have h9 := HZ.out
      rw [show n = 2 by omega]
      rfl
     subst he
     go_wp2_with fail
     go_ret
     rw [HKN.out]
     exact ⟨rfl, Keeps.refl _ _⟩
    ·have heb : ((2 : Int) == z) = false := by simpa using fun h => he h.symm
     have heb2 : ¬ (2 : Int) = z := fun h => he h.symm
     have HNE2 : Hid (∀ i : Nat, 1 ≤ i → i < 4 → numK i ≠ n) := fun i h1 h2 => by
      by_cases h3 : i = 3
      ·subst h3
       have h9 := HZ.out
       have h8 : numK 3 = 2 := rfl
       omega
      ·exact HNE.out i h1 (by omega)
     go_wp2_with fail
     go_roundw
     case rel => exact ⟨4, by go_num, by omega, by omega, (by first | rfl | trivial), HNE2.out⟩
     case measure => simp [intOf]
   ·by_cases he : z = 3
    ·have HKN : Hid (kindN n = 4) := by
      have h9 := HZ.out
      rw [show n = 3 by omega]
      rfl
     subst he
     go_wp2_with fail
     go_ret
     rw [HKN.out]
     exact ⟨rfl, Keeps.refl _ _⟩
    ·have heb : ((3 : Int) == z) = false := by simpa using fun h => he h.symm
     have heb2 : ¬ (3 : Int) = z := fun h => he h.symm
     have HNE2 : Hid (∀ i : Nat, 1 ≤ i → i < 5 → numK i ≠ n) := fun i h1 h2 => by
      by_cases h3 : i = 4
      ·subst h3
       have h9 := HZ.out
       have h8 : numK 4 = 3 := rfl
       omega
      ·exact HNE.out i h1 (by omega)
     go_wp2_with fail
     go_roundw
     case rel => exact ⟨5, by go_num, by omega, by omega, (by first | rfl | trivial), HNE2.out⟩
     case measure => simp [intOf]
   ·by_cases he : z = 4
    ·have HKN : Hid (kindN n = 5) := by
      have h9 := HZ.out
      rw [show n = 4 by omega]
      rfl
     subst he
     go_wp2_with fail
     go_ret
     rw [HKN.out]
     exact ⟨rfl, Keeps.refl _ _⟩
    ·have heb : ((4 : Int) == z) = false := by simpa using fun h => he h.symm
     have heb2 : ¬ (4 : Int) = z := fun h => he h.symm
     have HNE2 : Hid (∀ i : Nat, 1 ≤ i → i < 6 → numK i ≠ n) := fun i h1 h2 => by
      by_cases h3 : i = 5
      ·subst h3
       have h9 := HZ.out
       have h8 : numK 5 = 4 := rfl
       omega
      ·exact HNE.out i h1 (by omega)
     go_wp2_with fail
     go_roundw
     case rel => exact ⟨6, by go_num, by omega, by omega, (by first | rfl | trivial), HNE2.out⟩
     case measure => simp [intOf]
   ·by_cases he : z = 7
    ·have HKN : Hid (kindN n = 6) := by
      have h9 := HZ.out
      rw [show n = 7 by omega]
      rfl
     subst he
     go_wp2_with fail
     go_ret
     rw [HKN.out]
     exact ⟨rfl, Keeps.refl _ _⟩
    ·have heb : ((7 : Int) == z) = false := by simpa using fun h => he h.symm
     have heb2 : ¬ (7 : Int) = z := fun h => he h.symm
     have HNE2 : Hid (∀ i : Nat, 1 ≤ i → i < 7 → numK i ≠ n) := fun i h1 h2 => by
      by_cases h3 : i = 6
      ·subst h3
       have h9 := HZ.out
       have h8 : numK 6 = 7 := rfl
       omega
      ·exact HNE.out i h1 (by omega)
     go_wp2_with fail
     go_roundw
     case rel => exact ⟨7, by go_num, by omega, by omega, (by first | rfl | trivial), HNE2.out⟩
     case measure => simp [intOf]
  ·obtain rfl : k = 7 := by omega
   have hkn : kindN n = 0 := by
    have h1 := HNE.out 1 (by omega) (by omega)
    have h2 := HNE.out 2 (by omega) (by omega)
    have h3 := HNE.out 3 (by omega) (by omega)
    have h4 := HNE.out 4 (by omega) (by omega)
    have h5 := HNE.out 5 (by omega) (by omega)
    have h6 := HNE.out 6 (by omega) (by omega)
    have e1 : numK 1 = 0 := rfl
    have e2 : numK 2 = 1 := rfl
    have e3 : numK 3 = 2 := rfl
    have e4 : numK 4 = 3 := rfl
    have e5 : numK 5 = 4 := rfl
    have e6 : numK 6 = 7 := rfl
    unfold kindN
    rw [if_neg (by omega), if_neg (by omega), if_neg (by omega), if_neg (by omega), if_neg (by omega), if_neg (by omega)]
   have HKN := Lib.hid hkn
   clear hkn
   go_wp2_with fail
   go_ret
   rw [HKN.out]
   exact ⟨rfl, Keeps.refl _ _⟩
set_option maxHeartbeats 4000000 in
theorem bytesat_none (t : BV) (h : BH) (w : World) (ht : BerAt w t h) :
  Calls Tryz.prog 143 #[h.val, .slice none 0 0] w fun e w' => e = .returned (tv t.b) ∧ Keeps [] w w' := by
 obtain ⟨c, n, k, xs, l⟩ := t
 obtain ⟨c', n', k', A, la, ca, B, lb, cb⟩ := h
 obtain ⟨h1, h2, h3, _, _, _, hb, _, _, _, _⟩ := ht
 dsimp only at h1 h2 h3 hb
 subst h1 h2 h3
 have HB0 := Lib.hid (heap_new8 w (.cells #[.int .u8 (c' : Int), .int .u8 (n' : Int), .bool k', .slice A la ca, .slice B lb cb] 40))
 have HK0 : Hid (Keeps [] w (w.alloc (.cells #[.int .u8 (c' : Int), .int .u8 (n' : Int), .bool k', .slice A la ca, .slice B lb cb] 40))) := (Keeps.refl [] w).alloc _
 have hcv := conv_bytes (hb.grow HK0.out)
 obtain ⟨⟨z0, z1, z2, z3, z4⟩, _⟩ := five_facts HB0.out
 clear hb
 unfold BH.val tv
 dsimp only [BV.b] at *
 go_enter Tryz.func143, Tryz.ntmps143
 go_wp2_with fail
 refine wp_loop_rounds 1 ?_
 rw [rounds_succ]
 go_wp2_with fail
 go_ret
 exact ⟨rfl, HK0.out⟩
end Go.Proofs.YtbfebljahjmjfaaGreatDoor
