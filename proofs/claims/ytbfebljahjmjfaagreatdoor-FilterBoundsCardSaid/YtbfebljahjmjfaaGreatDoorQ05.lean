import Derived.Test.YtbfebljahjmjfaaGreatDoorQ04
/- entry: slices.Equal of texts; isOrdered; walked. -/
namespace Go.Proofs.YtbfebljahjmjfaaGreatDoor
open Go.RowKit Go.Shelf
set_option linter.unusedVariables false
set_option linter.unusedSimpArgs false
set_option maxRecDepth 100000

theorem tx_beq (s t : Txt) (r : Bool) (h : (s == t) = r) : ((⟨s.toArray⟩ : ByteArray) == ⟨t.toArray⟩) = r ∧ ((⟨s.toArray⟩ : ByteArray) != ⟨t.toArray⟩) = !r ∧ ((⟨s.toArray⟩ : ByteArray).toList == (⟨t.toArray⟩ : ByteArray).toList) = r := by
 have h1 : ((⟨s.toArray⟩ : ByteArray) == ⟨t.toArray⟩) = r := by
  rw [← h]
  show (s.toArray == t.toArray) = (s == t)
  simp
 refine ⟨h1, by show (!_) = !_; rw [h1], ?_⟩
 rw [← h, ByteArray.toList_eq, ByteArray.toList_eq]
theorem txs_take {a b : List Txt} {j : Nat} {p q : Txt} (hp : a[j]? = some p) (hq : b[j]? = some q) : ((a.take (j + 1)) == (b.take (j + 1))) = (((a.take j) == (b.take j)) && (p == q)) := by
 rw [List.take_add_one, List.take_add_one, hp, hq, Bool.eq_iff_iff]
 simp only [beq_iff_eq, Bool.and_eq_true, Option.toList_some]
 constructor
 ·intro h
  have hl : (a.take j).length = (b.take j).length := by
   have h1 := (List.getElem?_eq_some_iff.1 hp).1
   have h2 := (List.getElem?_eq_some_iff.1 hq).1
   rw [List.length_take, List.length_take]
   omega
  obtain ⟨h1, h2⟩ := List.append_inj h hl
  exact ⟨h1, by simpa using h2⟩
 ·rintro ⟨h1, rfl⟩
  rw [h1]
theorem txs_cut {a b : List Txt} {j : Nat} {p q : Txt} (hp : a[j]? = some p) (hq : b[j]? = some q) (h : (p == q) = false) : (a == b) = false := by
 rw [beq_eq_false_iff_ne] at h ⊢
 intro e
 subst e
 rw [hp] at hq
 injection hq with hq
 exact h hq

set_option maxHeartbeats 4000000 in
theorem equals_is (A B : Option Addr) (n m c c' : Nat) (a b : List Txt) (w : World) (ha : StrsIn w A n a) (hb : StrsIn w B m b) (hn : n ≤ 4611686018427387904) :
  Calls Tryz.prog 121 #[.slice A n c, .slice B m c'] w fun e w' => e = .returned (.bool (a == b)) ∧ Keeps [] w w' := by
 have HA := Lib.hid ha
 have HB := Lib.hid hb
 by_cases hnm : n = m
 ·subst hnm
  clear ha hb
  go_enter Tryz.func121, Tryz.ntmps121
  go_wp2_with fail
  go_loopw [13] (fun i wr => ∃ j : Nat, i = .int .i64 (j : Int) ∧ j ≤ n ∧ Hid (((a.take j) == (b.take j)) = true) ∧ Hid (Keeps [] w wr)) (fun i _ => n - (intOf i).toNat)
  case atStart => exact ⟨0, rfl, Nat.zero_le _, by simp [Hid], Keeps.refl _ _⟩
  case round =>
   obtain ⟨j, rfl, hj, HZ, HKR⟩ := hrel
   by_cases hlt : j < n
   ·obtain ⟨hl, hp, hc9⟩ := StrsIn.grow HKR.out HA.out
    obtain ⟨b1, o1, hA9, hcc⟩ := hc9 (by omega)
    obtain ⟨hl2, hp2, hc8⟩ := StrsIn.grow HKR.out HB.out
    obtain ⟨b2, o2, hB9, hcd⟩ := hc8 (by omega)
    clear hc9 hc8
    subst hA9 hB9
    obtain ⟨p, hu⟩ : ∃ p, a[j]? = some p := ⟨_, List.getElem?_eq_getElem (by omega)⟩
    obtain ⟨q, hu2⟩ : ∃ q, b[j]? = some q := ⟨_, List.getElem?_eq_getElem (by omega)⟩
    have c0 := hcc j p hu
    have c1 := hcd j q hu2
    have HT := Lib.hid (txs_take hu hu2)
    have HC := Lib.hid (fun h => txs_cut hu hu2 h)
    unfold tv at c0 c1
    obtain ⟨r, hr⟩ : ∃ r, (p == q) = r := ⟨_, rfl⟩
    rw [hr] at HT HC
    obtain ⟨hs1, hs2, hs3⟩ := tx_beq p q r hr
    generalize (⟨p.toArray⟩ : ByteArray) = P at *
    generalize (⟨q.toArray⟩ : ByteArray) = Q at *
    clear hcc hcd hu hu2 hr hp hp2 hl hl2
    have hjj : (j : Int) < (n : Int) := by omega
    have hji : 0 ≤ (j : Int) := by omega
    cases r
    ·go_wp2_with fail
     go_quiet (fail)
     go_wp2_with fail
     go_ret
     exact ⟨by rw [HC.out (by first | exact trivial | rfl)]; rfl, HKR.out.drewN _⟩
    ·go_wp2_with fail
     go_quiet (fail)
     go_wp2_with fail
     go_roundw
     case rel => exact ⟨j + 1, by go_num, by omega, by show _ = _; rw [HT.out, HZ.out]; rfl, HKR.out.drewN _⟩
     case measure => simp [intOf]; omega
   ·obtain rfl : j = n := by omega
    have h9 := HZ.out
    rw [List.take_of_length_le (by rw [HA.out.1]; exact Nat.le_refl _), List.take_of_length_le (by rw [HB.out.1]; exact Nat.le_refl _)] at h9
    have H9 := Lib.hid h9
    clear h9
    go_wp2_with fail
    go_ret
    exact ⟨by rw [H9.out]; rfl, HKR.out⟩
 ·have hf : (a == b) = false := by
   rw [beq_eq_false_iff_ne]
   intro e
   subst e
   exact hnm (ha.1.symm.trans hb.1)
  rw [hf]
  have hni : ¬ (n : Int) = (m : Int) := by omega
  have hnb : ((n : Int) == (m : Int)) = false := by simpa using hni
  have hnc : ((n : Int) != (m : Int)) = true := by simpa using hni
  clear ha hb
  go_enter Tryz.func121, Tryz.ntmps121
  go_wp2_with fail
  go_ret
  exact ⟨rfl, Keeps.refl _ _⟩

theorem isordered_is (A : Option Addr) (n c : Nat) (l : List Txt) (w : World) (h : StrsIn w A n l) (hn : n ≤ 1000000) :
  Calls Tryz.prog 188 #[.slice A n c] w fun e w' => e = .returned (.bool (l == ordS l)) ∧ Keeps [] w w' := by
 have HO := Lib.hid (ordered_is A n c l w h hn)
 have HS := Lib.hid h
 have HLL : Hid (∀ s ∈ ordS l, s.length ≤ 9223372036854775807) := fun s hs => h.2.1 s (((ordS_is l).2 s).1 hs)
 clear h
 go_enter Tryz.func188, Tryz.ntmps188
 go_wp2_with fail
 refine HO.out.mono ?_
 rintro e w1 ⟨A', c', rfl, h1, h2⟩
 have HE := Lib.hid (equals_is A A' n (ordS l).length c c' l (ordS l) w1 (StrsIn.grow h2 HS.out) (StrsIn.of_own h1 rfl HLL.out) (by omega))
 have H2 := Lib.hid h2
 clear h1 h2
 go_wp2_with fail
 refine HE.out.mono ?_
 rintro e w2 ⟨rfl, hk2⟩
 have H3 := Lib.hid (H2.out.trans' hk2)
 clear hk2
 go_wp2_with fail
 go_ret
 exact ⟨rfl, H3.out⟩
end Go.Proofs.YtbfebljahjmjfaaGreatDoor
/- entry: entries in memory; namesOf; walked. -/
namespace Go.Proofs.YtbfebljahjmjfaaGreatDoor
open Go.RowKit Go.Shelf
set_option linter.unusedVariables false
set_option linter.unusedSimpArgs false
set_option maxRecDepth 100000

/-- An attribute in memory: its Name, its slice of Values, and what it holds. -/
structure At7 where
 name : Txt
 A : Option Addr
 n : Nat
 c : Nat
 vs : List Txt
/-- An attribute as words. -/
abbrev Att := Txt × List Txt
def At7.att (a : At7) : Att := (a.name, a.vs)
def At7.fits (w : World) (a : At7) : Prop := a.name.length ≤ 9223372036854775807 ∧ a.n ≤ a.c ∧ a.c ≤ 9223372036854775807 ∧ StrsIn w a.A a.n a.vs
theorem At7.fits.grow {w w' : World} {a : At7} (hk : Keeps [] w w') (h : a.fits w) : a.fits w' := ⟨h.1, h.2.1, h.2.2.1, StrsIn.grow hk h.2.2.2⟩
/-- Attributes in memory, one behind the other. -/
def EntIn (w : World) (A : Option Addr) (n : Nat) (l : List At7) : Prop :=
 l.length = n ∧ (∀ a ∈ l, a.fits w) ∧ (0 < n → ∃ b o, A = some ⟨b, o, none⟩ ∧ ∀ (i : Nat) (a : At7), l[i]? = some a → w.cell? ⟨b, o + i * 2, none⟩ = some (tv a.name) ∧ w.cell? ⟨b, o + i * 2 + 1, none⟩ = some (.slice a.A a.n a.c))
theorem EntIn.grow {w w' : World} {A : Option Addr} {n : Nat} {l : List At7} (hk : Keeps [] w w') (h : EntIn w A n l) : EntIn w' A n l := by
 obtain ⟨h1, h2, h3⟩ := h
 refine ⟨h1, fun a ha => (h2 a ha).grow hk, fun hp => ?_⟩
 obtain ⟨b, o, e, hc⟩ := h3 hp
 refine ⟨b, o, e, fun i p hi => ?_⟩
 obtain ⟨c1, c2⟩ := hc i p hi
 exact ⟨(hk.cell (lt_of_cell c1) (by simp)).trans c1, (hk.cell (lt_of_cell c2) (by simp)).trans c2⟩
/-- No more of them, and of their Values, than some. -/
def Few7 (m : Nat) (l : List At7) : Prop := l.length ≤ m ∧ ∀ a ∈ l, a.n ≤ m
def ents (l : List At7) : List Att := l.map At7.att
theorem ents_len (l : List At7) : (ents l).length = l.length := by simp [ents]
theorem ents_at {l : List At7} {i : Nat} {a : At7} (h : l[i]? = some a) : (ents l)[i]? = some a.att := by simp [ents, h]
def namesT (e : List Att) : List Txt := e.map fun a => a.1
theorem names_take {l : List At7} {j : Nat} {a : At7} (h : l[j]? = some a) : namesT (ents (l.take (j + 1))) = namesT (ents (l.take j)) ++ [a.name] := by
 rw [List.take_add_one, h]
 simp [namesT, ents, At7.att]
theorem keeps_own7 {w a b : World} {bs : List Nat} {e : TypeId} {k n : Nat} {v : Value} {xs : List Value} (h : a.ownsRow w.heap.size e k v n xs) (hk : Keeps bs w a) (hg : a.grownBy b v.ownBlock) : Keeps bs w b :=
 hk.trans (Keeps.of_grown (bs := v.ownBlock.toList) hg (fun x hx => .inl (by rw [hx]; simp))) (fun x hx => .inr (by
  cases hv : v.ownBlock with
  | none => rw [hv] at hx; simp at hx
  | some y => rw [hv] at hx; simp at hx; subst hx; exact (h.lt x hv).1))
theorem blk2 {w : World} {g : Nat} {a b : Value} {t : TypeId} (h : w.heap[g]? = some (.cells #[a, b] t (0, 0))) :
  (w.cell? ⟨g, 0, none⟩ = some a ∧ w.cell? ⟨g, 1, none⟩ = some b) ∧ (w.frozen? ⟨g, 0, none⟩ = false ∧ w.frozen? ⟨g, 1, none⟩ = false) :=
 ⟨two_facts6 h, by unfold World.frozen?; rw [h]; exact ⟨rfl, rfl⟩⟩
theorem src_one7 (w : World) (s : Txt) (t : TypeId) : Src (w.alloc (.cells #[tv s] t)) (some ⟨w.heap.size, 0, none⟩) 1 [tv s] := by
 refine ⟨(fun h => by cases h), fun ad hA j u hu => ?_⟩
 cases hA
 rw [add_at, Nat.zero_add, World.cell?_alloc_new]
 simpa using hu

set_option maxHeartbeats 4000000 in
theorem namesof_is (A : Option Addr) (n c : Nat) (l : List At7) (w : World) (h : EntIn w A n l) (hn : n ≤ 100000) :
  Calls Tryz.prog 189 #[.slice A n c] w fun e w' => ∃ A' c', e = .returned (.slice A' n c') ∧ w'.ownsRow w.heap.size 9 1 (.slice A' n c') n ((namesT (ents l)).map tv) ∧ Keeps [] w w' := by
 obtain ⟨iu, hiu, hzu0, hzu1, hzu2⟩ := info_parts str_info7
 have HD := Lib.hid h
 clear h
 go_enter Tryz.func189, Tryz.ntmps189
 go_wp2_with fail
 go_loopw [3, 8] (fun d i wr => ∃ (A' : Option Addr) (c' j : Nat), d = .slice A' j c' ∧ i = .int .i64 (j : Int) ∧ j ≤ n ∧ Hid (wr.ownsRow w.heap.size 9 1 (.slice A' j c') j ((namesT (ents (l.take j))).map tv)) ∧ Hid (Keeps [] w wr)) (fun _ i _ => n - (intOf i).toNat)
 case atStart => exact ⟨none, 0, 0, rfl, rfl, Nat.zero_le _, World.ownsRow_nil _ _ _ _, Keeps.refl _ _⟩
 case round =>
  obtain ⟨A', c', j, rfl, rfl, hj, HR, HKR⟩ := hrel
  by_cases hlt : j < n
  ·obtain ⟨hl, hp, hc9⟩ := EntIn.grow HKR.out HD.out
   obtain ⟨b, o, hA9, hcc⟩ := hc9 (by omega)
   clear hc9
   subst hA9
   obtain ⟨a, hu⟩ : ∃ a, l[j]? = some a := ⟨_, List.getElem?_eq_getElem (by omega)⟩
   obtain ⟨c0, c1⟩ := hcc j a hu
   have HT := Lib.hid (names_take hu)
   obtain ⟨nm, aA, an, ac, avs⟩ := a
   dsimp only at c0 c1 HT
   unfold tv at c0
   have hji : (j : Int) < (n : Int) := by omega
   clear hcc hu hp hl
   have HK4 : Hid (Keeps [] wr (wr.alloc (.cells #[.string ⟨nm.toArray⟩, .slice aA an ac] 70))) := (Keeps.refl [] wr).alloc _
   have hz4 : (wr.alloc (.cells #[.string ⟨nm.toArray⟩, .slice aA an ac] 70)).heap.size = wr.heap.size + 1 := by simp
   have hb4 := blk2 (heap_new8 wr (.cells #[.string ⟨nm.toArray⟩, .slice aA an ac] 70))
   obtain ⟨w4, hw4⟩ : ∃ w4, wr.alloc (.cells #[.string ⟨nm.toArray⟩, .slice aA an ac] 70) = w4 := ⟨_, rfl⟩
   rw [hw4] at HK4 hz4 hb4
   obtain ⟨⟨d0, d1⟩, _⟩ := hb4
   have HS4 : Hid (Src (w4.alloc (.cells #[tv nm] 9)) (some ⟨wr.heap.size + 1, 0, none⟩) 1 [tv nm]) := by rw [← hz4]; exact src_one7 w4 nm _
   have HB3 : Hid (w.heap.size ≤ (w4.alloc (.cells #[tv nm] 9)).heap.size) := by
    have h9 := (HKR.out.trans' HK4.out).size
    show _ ≤ _
    simp
    omega
   go_wp2_with (at_builtin; refine wpList_append_opt rfl (.tmp 12) (.tmp 15) 68 rfl w.heap.size 9 iu _ 1 16 Tryz.underlying68 hiu hzu0 hzu1 hzu2 rfl (by decide) (.slice A' j c') j ((namesT (ents (l.take j))).map tv) rfl (own_keep HR.out (HK4.out.alloc _) (by simp)) (some ⟨wr.heap.size + 1, 0, none⟩) 1 1 [tv nm] rfl rfl HS4.out (by intro u hu; simp at hu; subst hu; rfl) (by unfold maxLen; omega) (by omega) HB3.out ?_; intro v5 w5 ho hg5 hs5; obtain ⟨VB, vd, hv5⟩ := own_slice ho; subst hv5; have HO5 := Lib.hid ho; have HK5 := Lib.hid (keeps_own7 (own_keep HR.out (HK4.out.alloc _) (by simp)) (HKR.out.trans' (HK4.out.alloc _)) hg5); clear ho hg5 hs5)
   go_roundw
   case rel => exact ⟨VB, vd, j + 1, rfl, by go_num, by omega, by show World.ownsRow _ _ _ _ _ _ _; rw [HT.out, List.map_append]; exact HO5.out, HK5.out⟩
   case measure => simp [intOf]; omega
  ·obtain rfl : j = n := by omega
   have h9 := HR.out
   rw [List.take_of_length_le (by rw [HD.out.1]; exact Nat.le_refl _)] at h9
   have H9 := Lib.hid h9
   clear h9
   go_wp2_with fail
   go_ret
   exact ⟨A', c', rfl, H9.out, HKR.out⟩
end Go.Proofs.YtbfebljahjmjfaaGreatDoor
