import Derived.Test.YtbfebljahjmjfaaGreatDoorQ07
import Derived.BigQuiet
/- filter: what sound makes of one; walked. -/
namespace Go.Proofs.YtbfebljahjmjfaaGreatDoor
open Go.RowKit Go.Shelf
set_option linter.unusedVariables false
set_option linter.unusedSimpArgs false
set_option maxRecDepth 100000

set_option maxHeartbeats 4000000 in
theorem soundc_is (h : FH) (A : Option Addr) (n c gn : Nat) (no : Int) (w : World) (hs : h.s.length ≤ 9223372036854775807) (hv : h.v.length ≤ 9223372036854775807) (hn : w.cell? ⟨gn, 0, none⟩ = some (.int .i64 no)) :
  Calls Tryz.prog 77 #[h.val, .slice A n c, .pointer (some ⟨gn, 0, none⟩)] w fun e w' => (aloneH h.k h.lb h.s h.v = true ∧ e = .returned (FH.val ⟨h.k, A, n, c, smallL h.s, h.v⟩) ∨ aloneH h.k h.lb h.s h.v = false ∧ e = gaveUp8 no) ∧ Keeps [] w w' := by
 have HMB := Lib.hid (fun X => maybe8_is h X hs hv)
 have HSM := Lib.hid (fun X => small_is h.s X hs)
 obtain ⟨P, hP⟩ : ∃ P, aloneH h.k h.lb h.s h.v = P := ⟨_, rfl⟩
 rw [hP] at HMB ⊢
 clear hP
 obtain ⟨k, B, m, d, s, v⟩ := h
 dsimp only at HSM ⊢
 generalize smallL s = z at HSM ⊢
 unfold FH.val tv at *
 dsimp only at HMB ⊢
 have HB1 := Lib.hid (heap_new8 w (.cells #[.int .i64 k, .slice B m d, .string ⟨s.toArray⟩, .string ⟨v.toArray⟩] 26))
 have HK1 : Hid (Keeps [] w (w.alloc (.cells #[.int .i64 k, .slice B m d, .string ⟨s.toArray⟩, .string ⟨v.toArray⟩] 26))) := (Keeps.refl [] w).alloc _
 have HMY := Lib.hid (must8_yes no)
 have HMN := Lib.hid (must8_no no)
 have HN := Lib.hid (fun X (hX : Keeps [] w X) => (hX.cell (lt_of_cell hn) (by simp)).trans hn)
 clear hs hv hn
 go_enter Tryz.func77, Tryz.ntmps77
 go_wp2_with fail
 have HK2 : Hid (Keeps [] w ((w.alloc (.cells #[.int .i64 k, .slice B m d, .string ⟨s.toArray⟩, .string ⟨v.toArray⟩] 26)).alloc (.cells #[.int .i64 0, .slice none 0 0, .string ⟨#[]⟩, .string ⟨#[]⟩] 26))) := HK1.out.alloc _
 have HB2 := Lib.hid (blk_keep HB1.out ((Keeps.refl [] _).alloc (.cells #[.int .i64 0, .slice none 0 0, .string ⟨#[]⟩, .string ⟨#[]⟩] 26)) (by simp))
 have HR2 := Lib.hid (heap_new8 (w.alloc (.cells #[.int .i64 k, .slice B m d, .string ⟨s.toArray⟩, .string ⟨v.toArray⟩] 26)) (.cells #[.int .i64 0, .slice none 0 0, .string ⟨#[]⟩, .string ⟨#[]⟩] 26))
 rw [World.size_alloc] at HR2
 have hgR : w.heap.size < w.heap.size + 1 := Nat.lt_succ_self _
 have HLO : Hid (w.heap.size ≤ w.heap.size) := Nat.le_refl _
 generalize (w.alloc (.cells #[.int .i64 k, .slice B m d, .string ⟨s.toArray⟩, .string ⟨v.toArray⟩] 26)).alloc (.cells #[.int .i64 0, .slice none 0 0, .string ⟨#[]⟩, .string ⟨#[]⟩] 26) = W1 at HK2 HB2 HR2 ⊢
 obtain ⟨R, hR⟩ : ∃ R, w.heap.size + 1 = R := ⟨_, rfl⟩
 rw [hR] at HR2 hgR ⊢
 obtain ⟨g, hg⟩ : ∃ g, w.heap.size = g := ⟨_, rfl⟩
 have HLO2 : Hid (w.heap.size ≤ g) := by show _ ≤ _; omega
 rw [hg] at HB2 hgR ⊢
 clear hR hg HB1 HK1 HLO
 refine wp_region_held_drew (S := (fun X => Keeps [] W1 X)) (by kernel_rfl) ((Keeps.refl [] W1).drew) ?_
 intro HS
 refine wpAnyH_take (i := 0) (v := .agg #[.int .i64 k, .slice B m d, .string ⟨s.toArray⟩, .string ⟨v.toArray⟩]) rfl (by kernel_rfl) (by kernel_rfl) (by kernel_rfl) (fun _ _ _ h => h) (Or.inl ⟨by kernel_rfl, ?_⟩) HS ?_
 ·intro w5 hw5
  obtain ⟨⟨d0, d1, d2, d3⟩, _⟩ := four_facts8 (blk_keep HB2.out hw5 (by simp))
  go_simp
 simp only [Act.put, aL]
 refine wpAnyH_take (i := 2) (v := .int .i64 no) rfl (by kernel_rfl) (by kernel_rfl) (by kernel_rfl) (fun _ _ _ h => h) (Or.inl ⟨by kernel_rfl, ?_⟩) HS ?_
 ·intro w5 hw5
  have d0 := HN.out w5 (HK2.out.trans' hw5)
  go_simp
 simp only [Act.put, aL]
 refine wpAnyH_ready (rs := [1]) (by kernel_rfl) (by simp) ?_
 refine AllReadyH.cons rfl (fun K hK => ?_) AllReadyH.nil
 go_simp
 refine (HMB.out _).mono ?_
 rintro e w1 ⟨rfl, hk1⟩
 have HK3 := Lib.hid (((Keeps.refl [] W1).drew).trans' hk1)
 clear hk1
 refine hK.out _ _ HK3.out (fun HS => ?_)
 clear hK K
 try simp only [Act.put, aL]
 refine wpAnyH_ready (rs := [3]) (by kernel_rfl) (by simp) ?_
 refine AllReadyH.cons rfl (fun K hK => ?_) AllReadyH.nil
 cases P
 ·go_simp
  refine (HMN.out _).mono ?_
  rintro e w2 ⟨rfl, rfl⟩
  go_wp2_with fail
  exact ⟨rfl, rfl, HK2.out.trans' HK3.out⟩
 ·go_simp
  refine (HMY.out _).mono ?_
  rintro e w2 ⟨rfl, rfl⟩
  refine hK.out _ _ HK3.out (fun HS => ?_)
  clear hK K
  try simp only [Act.put, aL]
  refine wpAnyH_done (by kernel_rfl) ?_ _
  obtain ⟨⟨d0, d1, d2, d3⟩, f0, f1, f2, f3⟩ := four_facts8 (blk_keep HB2.out HK3.out (by simp))
  go_wp2_with fail
  refine (HSM.out _).mono ?_
  rintro e w3 ⟨rfl, hk3⟩
  have HK4 := Lib.hid (HK3.out.trans' hk3)
  clear hk3 d0 d1 d2 d3 f0 f1 f2 f3
  have HB3 := Lib.hid (blk_keep HB2.out HK4.out (by simp))
  have HB4 : Hid ((w3.setCell ⟨g, 2, none⟩ (.string ⟨z.toArray⟩)).heap[g]? = some (.cells #[.int .i64 k, .slice B m d, .string ⟨z.toArray⟩, .string ⟨v.toArray⟩] 26 (0, 0))) := heap_setCell_same w3 g 2 _ _ _ HB3.out
  have HB5 : Hid (((w3.setCell ⟨g, 2, none⟩ (.string ⟨z.toArray⟩)).setCell ⟨g, 1, none⟩ (.slice A n c)).heap[g]? = some (.cells #[.int .i64 k, .slice A n c, .string ⟨z.toArray⟩, .string ⟨v.toArray⟩] 26 (0, 0))) := heap_setCell_same _ g 1 _ _ _ HB4.out
  have HK5 : Hid (Keeps [g] w3 ((w3.setCell ⟨g, 2, none⟩ (.string ⟨z.toArray⟩)).setCell ⟨g, 1, none⟩ (.slice A n c))) := ((Keeps.refl [g] w3).setCell (.inl (by simp)) _).setCell (.inl (by simp)) _
  have HR5 := Lib.hid (blk_keep (blk_keep HR2.out HK4.out (by simp)) HK5.out (by simp; omega))
  obtain ⟨⟨d0, d1, d2, d3⟩, f0, f1, f2, f3⟩ := four_facts8 HB3.out
  obtain ⟨⟨x0, x1, x2, x3⟩, y0, y1, y2, y3⟩ := four_facts8 HB4.out
  obtain ⟨⟨p0, p1, p2, p3⟩, q0, q1, q2, q3⟩ := four_facts8 HB5.out
  obtain ⟨⟨r0, r1, r2, r3⟩, s0, s1, s2, s3⟩ := four_facts8 HR5.out
  go_wp2_with fail
  have HR6 := heap_setCell_same _ R 0 _ _ (.int .i64 k) HR5.out
  have HR7 := heap_setCell_same _ R 1 _ _ (.slice A n c) HR6
  have HR8 := heap_setCell_same _ R 2 _ _ (.string ⟨z.toArray⟩) HR7
  have HR9 := heap_setCell_same _ R 3 _ _ (.string ⟨v.toArray⟩) HR8
  refine bodyPost_ret (results_cell_row rfl _ _ R _ #[.int .i64 k, .slice A n c, .string ⟨z.toArray⟩, .string ⟨v.toArray⟩] (0, 0) _ rfl HR9 Tryz.underlying26 rfl (by kernel_rfl)) rfl ?_
  refine ⟨rfl, ?_⟩
  have k9 := (((HK5.out.mono (cs := [g, R]) (by simp)).setCell (.inl (by simp)) (.int .i64 k) (p := ⟨R, 0, none⟩)).setCell (.inl (by simp)) (.slice A n c) (p := ⟨R, 1, none⟩)).setCell (.inl (by simp)) (.string ⟨z.toArray⟩) (p := ⟨R, 2, none⟩)
  have k10 := k9.setCell (.inl (by simp)) (.string ⟨v.toArray⟩) (p := ⟨R, 3, none⟩)
  exact (HK2.out.trans' HK4.out).trans k10 (fun x hx => .inr (by have := HLO2.out; simp at hx; rcases hx with rfl | rfl <;> omega))
end Go.Proofs.YtbfebljahjmjfaaGreatDoor
/- filter: rows of filters in memory of their own; what a round of through finds. -/
namespace Go.Proofs.YtbfebljahjmjfaaGreatDoor
open Go.RowKit Go.Shelf
set_option linter.unusedVariables false
set_option linter.unusedSimpArgs false
set_option maxRecDepth 100000

/-- The cells of a row of filters. -/
def headsF (hs : List FH) : List Value := hs.flatMap FH.list
theorem headsF_get : ∀ (hs : List FH) (i q : Nat) (h : FH) (u : Value), hs[i]? = some h → h.list[q]? = some u → (headsF hs)[i * 4 + q]? = some u
 | x :: r, 0, q, h, u, hh, hu => by
  simp at hh
  subst hh
  have hq : q < x.list.length := (List.getElem?_eq_some_iff.1 hu).1
  unfold headsF
  rw [List.flatMap_cons, Nat.zero_mul, Nat.zero_add, List.getElem?_append_left hq]
  exact hu
 | x :: r, i + 1, q, h, u, hh, hu => by
  have h9 := headsF_get r i q h u (by simpa using hh) hu
  unfold headsF at *
  have h5 : x.list.length = 4 := rfl
  rw [List.flatMap_cons, List.getElem?_append_right (by rw [h5]; omega), h5, show (i + 1) * 4 + q - 4 = i * 4 + q by omega]
  exact h9
theorem headsF_snoc (hs : List FH) (h : FH) : headsF (hs ++ [h]) = headsF hs ++ h.list := by simp [headsF]
theorem fils_own {X : World} {base n d : Nat} {g : Option Addr} {hs : List FH} {l : List FV} (ho : X.ownsRow base 26 4 (.slice g n d) n (headsF hs)) (hn : hs.length = n) (hl : l.length = n) (hb : ∀ (i : Nat) (t : FV) (h : FH), l[i]? = some t → hs[i]? = some h → FilAt X t h) : FilsAt X g 0 l := by
 refine fils_of fun j t ht => ?_
 have hj : j < n := by have := (List.getElem?_eq_some_iff.1 ht).1; omega
 have hh : hs[j]? = some (hs[j]'(by omega)) := List.getElem?_eq_getElem _
 rcases ho.2 with ⟨_, h0⟩ | ⟨k, cap, cur, hv, _⟩
 ·omega
 ·injection hv with e1 e2 e3
  subst e1
  refine ⟨k, 0, _, rfl, fun q u hu => ?_, hb j t _ ht hh⟩
  have h9 := ho.cells (g := k) rfl (j * 4 + q) u (headsF_get hs j q _ u hh hu)
  rw [add_at] at h9
  rw [Nat.zero_add, Nat.zero_add]
  rwa [Nat.zero_add] at h9
theorem src_one8 (w : World) (h : FH) (t : TypeId) : Src (w.alloc (.cells #[.int .i64 h.k, .slice h.B h.lb h.cb, .string ⟨h.s.toArray⟩, .string ⟨h.v.toArray⟩] t)) (some ⟨w.heap.size, 0, none⟩) 1 h.list := by
 refine ⟨(fun h => by cases h), fun ad hA j u hu => ?_⟩
 cases hA
 have h9 : ([.int .i64 h.k, .slice h.B h.lb h.cb, .string ⟨h.s.toArray⟩, .string ⟨h.v.toArray⟩] : List Value)[j]? = some u := hu
 rw [add_at, Nat.zero_add, World.cell?_alloc_new]
 simpa using h9
mutual
theorem thruF_le (ok : FV → Bool) : ∀ (t : FV) (d m n : Nat), thruF ok d m t = some n → m + 1 ≤ n ∧ m < 200 ∧ d ≤ 16 ∧ n ≤ 200
 | .mk k l s v, d, m, n, h => by
  unfold thruF at h
  split at h
  ·rename_i hc
   cases hq : thruL ok (d + 1) (m + 1) l with
   | none => rw [hq] at h; cases h
   | some n' =>
    rw [hq] at h
    dsimp only at h
    split at h
    ·injection h with h
     subst h
     obtain ⟨h1, h2⟩ := thruL_le ok l (d + 1) (m + 1) n' hq
     exact ⟨by omega, hc.1, hc.2, h2 (by omega)⟩
    ·cases h
  ·cases h
theorem thruL_le (ok : FV → Bool) : ∀ (l : List FV) (d m n : Nat), thruL ok d m l = some n → m + l.length ≤ n ∧ (m ≤ 200 → n ≤ 200)
 | [], d, m, n, h => by
  unfold thruL at h
  injection h with h
  subst h
  exact ⟨Nat.le_refl _, id⟩
 | t :: r, d, m, n, h => by
  unfold thruL at h
  cases hq : thruF ok d m t with
  | none => rw [hq] at h; cases h
  | some n' =>
   rw [hq] at h
   obtain ⟨h1, h2, h3, h4⟩ := thruF_le ok t d m n' hq
   obtain ⟨h5, h6⟩ := thruL_le ok r d n' n h
   exact ⟨by simp; omega, fun _ => h6 h4⟩
end
/-- What does not turn: what through's closures hold. -/
structure EnvF (gp gx gw gm gn : Nat) (fx : FuncId) (vw : Value) (w : World) : Prop where
 pass : w.cell? ⟨gp, 0, none⟩ = some (.func (.func 134) #[] #[.pointer (some ⟨gm, 0, none⟩), .pointer (some ⟨gn, 0, none⟩)])
 next : w.cell? ⟨gx, 0, none⟩ = some (.func (.func fx) #[] #[.pointer (some ⟨gp, 0, none⟩), .pointer (some ⟨gx, 0, none⟩), .pointer (some ⟨gw, 0, none⟩)])
 with_ : w.cell? ⟨gw, 0, none⟩ = some vw
 n1 : gp ≠ gm
 n2 : gx ≠ gm
 n3 : gw ≠ gm
theorem EnvF.keep {gp gx gw gm gn : Nat} {fx : FuncId} {vw : Value} {w w' : World} (h : EnvF gp gx gw gm gn fx vw w) (hk : Keeps [gm] w w') : EnvF gp gx gw gm gn fx vw w' :=
 ⟨(hk.cell (p := ⟨gp, 0, none⟩) (lt_of_cell h.pass) (by simpa using h.n1)).trans h.pass, (hk.cell (p := ⟨gx, 0, none⟩) (lt_of_cell h.next) (by simpa using h.n2)).trans h.next, (hk.cell (p := ⟨gw, 0, none⟩) (lt_of_cell h.with_) (by simpa using h.n3)).trans h.with_, h.n1, h.n2, h.n3⟩
/-- How sound's through ends. -/
def ThrQ (no : Int) (d m : Nat) (t : FV) (gm gn : Nat) (w : World) (e : Ending) (w' : World) : Prop :=
 ((∃ n h, thruF aloneF d m t = some n ∧ e = .returned (FH.val h) ∧ PassAt w' gm gn n no ∧ ∀ (E : List Nat) X, (∀ x ∈ E, x < w.heap.size) → Keeps E w' X → FilAt X (lowF t) h) ∨ thruF aloneF d m t = none ∧ e = gaveUp8 no) ∧ Keeps [gm] w w'
/-- What a round finds. -/
structure ThrS (w wr : World) (gm gn : Nat) (no : Int) (d m : Nat) (l : List FV) (j : Nat) (A : Option Addr) (c : Nat) (hs : List FH) (n : Nat) : Prop where
 cnt : thruL aloneF (d + 1) (m + 1) (l.take j) = some n
 pass : PassAt wr gm gn n no
 row : wr.ownsRow (w.heap.size + 2) 26 4 (.slice A j c) j (headsF hs)
 hsl : hs.length = j
 items : ∀ (E : List Nat) X, (∀ x ∈ E, x < w.heap.size + 2 ∨ (Value.slice A j c).ownBlock = some x) → Keeps E wr X → ∀ (i : Nat) (t : FV) (h : FH), (l.take j)[i]? = some t → hs[i]? = some h → FilAt X (lowF t) h
 keep : Keeps [gm] w wr
 siz : w.heap.size + 2 ≤ wr.heap.size
theorem ThrS.step {w wr w5 w6 w7 w8 : World} {gm gn : Nat} {no : Int} {d m : Nat} {l : List FV} {j : Nat} {A A8 : Option Addr} {c c8 : Nat} {hs : List FH} {n n' : Nat} (H : ThrS w wr gm gn no d m l j A c hs n) (hgm : gm < w.heap.size) (hgn : gn < w.heap.size)
  {t : FV} {h : FH} (ht : l[j]? = some t) (k5 : Keeps [] wr w5) (hn : thruF aloneF (d + 1) n t = some n') (k6 : Keeps [gm] w5 w6) (hp6 : PassAt w6 gm gn n' no) (hp : ∀ (E : List Nat) X, (∀ x ∈ E, x < w5.heap.size) → Keeps E w6 X → FilAt X (lowF t) h) (k7 : Keeps [] w6 w7)
  (ho : w8.ownsRow (w.heap.size + 2) 26 4 (.slice A8 (j + 1) c8) (j + 1) (headsF hs ++ h.list)) (hg : w7.grownBy w8 (Value.slice A j c).ownBlock) (hs8 : (Value.slice A8 (j + 1) c8).ownBlock = (Value.slice A j c).ownBlock ∨ (Value.slice A8 (j + 1) c8).ownBlock = some w7.heap.size) :
  ThrS w w8 gm gn no d m l (j + 1) A8 c8 (hs ++ [h]) n' := by
 have hz5 := k5.size
 have hz6 := k6.size
 have hz7 := k7.size
 have hsz := H.siz
 have k8 : Keeps (Value.slice A j c).ownBlock.toList w7 w8 := Keeps.of_grown hg (fun x hx => .inl (by rw [hx]; simp))
 have hz8 := k8.size
 have hvl : ∀ x ∈ (Value.slice A j c).ownBlock.toList, w.heap.size + 2 ≤ x ∧ x < wr.heap.size := fun x hx => H.row.lt x (by simpa using hx)
 have k68 : Keeps (Value.slice A j c).ownBlock.toList w6 w8 := (k7.mono (by simp)).trans k8 (fun x hx => .inl hx)
 have kr8 : Keeps (gm :: (Value.slice A j c).ownBlock.toList) wr w8 := ((k5.mono (cs := [gm]) (by simp)).trans' k6 |>.mono (cs := gm :: (Value.slice A j c).ownBlock.toList) (by simp)).trans k68 (fun x hx => .inl (List.mem_cons_of_mem _ hx))
 have htk : l.take (j + 1) = l.take j ++ [t] := by rw [List.take_add_one, ht]; rfl
 refine ⟨by rw [htk, thruL_snoc, H.cnt]; exact hn, hp6.keep k68 (fun hm => by have := hvl gm hm; omega) (fun hm => by have := hvl gn hm; omega), by rw [headsF_snoc]; exact ho, by simp [H.hsl], fun E X hE hk i t' h' ht' hh' => ?_, H.keep.trans kr8 (fun x hx => ?_), by omega⟩
 ·have hcase : ∀ x ∈ E, x < wr.heap.size ∨ w7.heap.size ≤ x := fun x hx => by
   rcases hE x hx with h9 | h9
   ·exact .inl (by omega)
   ·rcases hs8 with h10 | h10
    ·rw [h10] at h9
     exact .inl (hvl x (by rw [h9]; simp)).2
    ·rw [h10] at h9
     injection h9 with h9
     exact .inr (by omega)
  have hold : ∀ x ∈ E, x < wr.heap.size → x < w.heap.size + 2 ∨ (Value.slice A j c).ownBlock = some x := fun x hx hlt => by
   rcases hE x hx with h9 | h9
   ·exact .inl h9
   ·rcases hs8 with h10 | h10
    ·rw [h10] at h9; exact .inr h9
    ·rw [h10] at h9
     injection h9 with h9
     omega
  rw [htk] at ht'
  have hjl : (l.take j).length = j := by
   rw [List.length_take]
   have := (List.getElem?_eq_some_iff.1 ht).1
   omega
  by_cases hj : i < j
  ·rw [List.getElem?_append_left (by rw [hjl]; exact hj)] at ht'
   rw [List.getElem?_append_left (by rw [H.hsl]; exact hj)] at hh'
   have kX : Keeps ((gm :: (Value.slice A j c).ownBlock.toList) ++ E.filter (fun x => decide (x < wr.heap.size))) wr X := by
    have k10 : Keeps ((gm :: (Value.slice A j c).ownBlock.toList) ++ E.filter (fun x => decide (x < wr.heap.size))) wr w8 := kr8.mono (fun x hx => .inl (List.mem_append_left _ hx))
    refine k10.trans hk (fun x hx => ?_)
    rcases hcase x hx with h9 | h9
    ·exact .inl (List.mem_append_right _ (List.mem_filter.2 ⟨hx, by simpa using h9⟩))
    ·exact .inr (by omega)
   refine H.items _ X (fun x hx => ?_) kX i t' h' ht' hh'
   rcases List.mem_append.1 hx with hx | hx
   ·simp only [List.mem_cons] at hx
    rcases hx with hx | hx
    ·exact .inl (by omega)
    ·exact .inr (by simpa using hx)
   ·obtain ⟨h9, h10⟩ := List.mem_filter.1 hx
    exact hold x h9 (by simpa using h10)
  ·have hja : i = j := by
    have := (List.getElem?_eq_some_iff.1 ht').1
    simp at this
    omega
   subst hja
   rw [List.getElem?_append_right (by rw [hjl]; exact Nat.le_refl _), hjl] at ht'
   rw [List.getElem?_append_right (by rw [H.hsl]; exact Nat.le_refl _), H.hsl] at hh'
   simp at ht' hh'
   subst ht' hh'
   have kX : Keeps ((Value.slice A i c).ownBlock.toList ++ E.filter (fun x => decide (x < wr.heap.size))) w6 X := by
    have k10 : Keeps ((Value.slice A i c).ownBlock.toList ++ E.filter (fun x => decide (x < wr.heap.size))) w6 w8 := k68.mono (fun x hx => .inl (List.mem_append_left _ hx))
    refine k10.trans hk (fun x hx => ?_)
    rcases hcase x hx with h9 | h9
    ·exact .inl (List.mem_append_right _ (List.mem_filter.2 ⟨hx, by simpa using h9⟩))
    ·exact .inr (by omega)
   refine hp _ X (fun x hx => ?_) kX
   rcases List.mem_append.1 hx with hx | hx
   ·have := (hvl x hx).2; omega
   ·have : x < wr.heap.size := by simpa using (List.mem_filter.1 hx).2
    omega
 ·simp only [List.mem_cons] at hx
  rcases hx with hx | hx
  ·exact .inl (by simp [hx])
  ·exact .inr (by have := (hvl x hx).1; omega)
end Go.Proofs.YtbfebljahjmjfaaGreatDoor
/- filter: sound's through; walked. -/
namespace Go.Proofs.YtbfebljahjmjfaaGreatDoor
open Go.RowKit Go.Shelf
set_option linter.unusedVariables false
set_option linter.unusedSimpArgs false
set_option maxRecDepth 100000

theorem fil_info8 : (Tryz.prog.info? 26).map (fun i => (i.zero, i.size, i.bytes)) = some (some (.agg #[.int .i64 0, .slice none 0 0, .string ⟨#[]⟩, .string ⟨#[]⟩]), 4, 64) := by kernel_rfl
theorem thrF_none {ok : FV → Bool} {d m : Nat} {k : Int} {l : List FV} {s v : Txt} (h : ¬ (m < 200 ∧ d ≤ 16)) : thruF ok d m (.mk k l s v) = none := by
 unfold thruF
 rw [if_neg h]
theorem thrF_in {ok : FV → Bool} {d m : Nat} {k : Int} {l : List FV} {s v : Txt} (h : m < 200 ∧ d ≤ 16) : thruF ok d m (.mk k l s v) = match thruL ok (d + 1) (m + 1) l with | none => none | some n => if ok (.mk k l s v) = true then some n else none := by
 unfold thruF
 rw [if_pos h]
 cases thruL ok (d + 1) (m + 1) l <;> rfl
theorem boxes_on {w wr w7 w8 : World} {gm n c j : Nat} {A : Option Addr} {xs : List Value} {o : Obj} {b : Nat} (hr : wr.ownsRow (w.heap.size + 2) 26 4 (.slice A j c) n xs) (k : Keeps [gm] wr w7) (hg : w7.grownBy w8 (Value.slice A j c).ownBlock) (hb : b < w.heap.size + 2) (hne : b ≠ gm) (h : wr.heap[b]? = some o) : w8.heap[b]? = some o :=
 blk_keep (blk_keep h k (by simpa using hne)) (Keeps.of_grown (bs := (Value.slice A j c).ownBlock.toList) hg (fun x hx => .inl (by rw [hx]; simp))) (fun hm => by have := (hr.lt b (by simpa using hm)).1; omega)
set_option maxHeartbeats 16000000 in
theorem thrF_is (gp gx gw gm gn g2 : Nat) (no : Int) (w0 : World) (hgm0 : w0.heap.size ≤ gm) (h2m : g2 ≠ gm) : ∀ (t : FV) (d m : Nat) (h : FH) (w : World), d ≤ 17 → m ≤ 200 → FilAt w0 t h → Keeps [] w0 w →
  EnvF gp gx gw gm gn 132 (.func (.func 77) #[] #[.pointer (some ⟨g2, 0, none⟩)]) w → w.cell? ⟨g2, 0, none⟩ = some (.int .i64 no) → PassAt w gm gn m no →
  Calls Tryz.prog 132 #[h.val, .int .i64 (d : Int), .pointer (some ⟨gp, 0, none⟩), .pointer (some ⟨gx, 0, none⟩), .pointer (some ⟨gw, 0, none⟩)] w (ThrQ no d m t gm gn w) := by
 obtain ⟨iu, hiu, hzu0, hzu1, hzu2⟩ := info_parts fil_info8
 intro t
 induction t using FV.ind with
 | h k l s v ih =>
  intro d m h w hd hm ht hk0 hE hno hP
  have IH := Lib.hid ih
  have hgmw := lt_of_heap hP.many
  have hgnw := lt_of_heap hP.no
  have HPS := Lib.hid (fun X hX => pass8_is d gm gn m no X (by omega) (by omega) hX)
  obtain ⟨rfl, rfl, rfl, h4, h5, h6, h7, h8, h9, h10, h11⟩ := ht
  obtain ⟨k, B, lb, cb, s, v⟩ := h
  have hl : l.length = lb := h8
  have hlb : lb ≤ 9223372036854775807 := Nat.le_trans h9 h10
  dsimp only at h6 h7
  have HSL : Hid (s.length ≤ 9223372036854775807 ∧ v.length ≤ 9223372036854775807) := ⟨h6, h7⟩
  have HKI : Hid (-9223372036854775808 ≤ k ∧ k ≤ 9223372036854775807) := ⟨h4, h5⟩
  have HI := Lib.hid h11
  have HL := Lib.hid hl
  have HK0 := Lib.hid hk0
  have HE := Lib.hid hE
  have HNO := Lib.hid hno
  have HP := Lib.hid hP
  have HB1 := Lib.hid (heap_new8 w (.cells #[.int .i64 k, .slice B lb cb, .string ⟨s.toArray⟩, .string ⟨v.toArray⟩] 26))
  have hka : Keeps [] w (w.alloc (.cells #[.int .i64 k, .slice B lb cb, .string ⟨s.toArray⟩, .string ⟨v.toArray⟩] 26)) := (Keeps.refl [] w).alloc _
  have HKB : Hid (Keeps [] w ((w.alloc (.cells #[.int .i64 k, .slice B lb cb, .string ⟨s.toArray⟩, .string ⟨v.toArray⟩] 26)).alloc (.cells #[.int .i64 0, .slice none 0 0, .string ⟨#[]⟩, .string ⟨#[]⟩] 26))) := hka.alloc _
  have HB2 := Lib.hid (blk_keep HB1.out ((Keeps.refl [] _).alloc (.cells #[.int .i64 0, .slice none 0 0, .string ⟨#[]⟩, .string ⟨#[]⟩] 26)) (by simp))
  have HR2 := Lib.hid (heap_new8 (w.alloc (.cells #[.int .i64 k, .slice B lb cb, .string ⟨s.toArray⟩, .string ⟨v.toArray⟩] 26)) (.cells #[.int .i64 0, .slice none 0 0, .string ⟨#[]⟩, .string ⟨#[]⟩] 26))
  rw [World.size_alloc] at HR2
  have HZ : Hid (w.heap.size + 2 ≤ ((w.alloc (.cells #[.int .i64 k, .slice B lb cb, .string ⟨s.toArray⟩, .string ⟨v.toArray⟩] 26)).alloc (.cells #[.int .i64 0, .slice none 0 0, .string ⟨#[]⟩, .string ⟨#[]⟩] 26)).heap.size) := by show _ ≤ _; simp
  clear h4 h5 h6 h7 h8 h9 h10 h11 hl hk0 hE hno hP hka ih
  unfold FH.val tv
  dsimp only
  have HEW := HE.out.keep (HKB.out.mono (cs := [gm]) (by simp))
  obtain ⟨e1, e2, e3, _, _, _⟩ := HEW
  go_enter Tryz.func132, Tryz.ntmps132
  go_wp2_with fail
  have HP1 := Lib.hid (HP.out.keep HKB.out (by simp) (by simp))
  generalize (w.alloc (.cells #[.int .i64 k, .slice B lb cb, .string ⟨s.toArray⟩, .string ⟨v.toArray⟩] 26)).alloc (.cells #[.int .i64 0, .slice none 0 0, .string ⟨#[]⟩, .string ⟨#[]⟩] 26) = W1 at HKB HB2 HR2 HZ HP1 e1 e2 e3 ⊢
  refine (HPS.out W1 HP1.out).mono ?_
  rintro e w2 ⟨⟨hc, rfl⟩ | ⟨hc, rfl⟩, hp2, hk2⟩
  rotate_left
  ·have HK2 := Lib.hid ((HKB.out.mono (cs := [gm]) (by simp)).trans' hk2)
   clear hk2 hp2
   go_wp2_with fail
   exact ⟨rfl, .inr ⟨thrF_none hc, rfl⟩, HK2.out⟩
  ·have HC := Lib.hid hc
   have HK2 := Lib.hid ((HKB.out.mono (cs := [gm]) (by simp)).trans' hk2)
   have HB3 := Lib.hid (blk_keep HB2.out hk2 (by simp; omega))
   have HR3 := Lib.hid (blk_keep HR2.out hk2 (by simp; omega))
   have HS0 : Hid (ThrS w w2 gm gn no d m l 0 none 0 [] (m + 1)) := ⟨by simp [thruL], hp2, World.ownsRow_nil _ _ _ _, rfl, by simp, HK2.out, Nat.le_trans HZ.out hk2.size⟩
   obtain ⟨⟨z0, z1, z2, z3⟩, _⟩ := four_facts8 HB3.out
   clear hc hk2 hp2 e1 e2 e3
   go_wp2_with fail
   go_loopw [8, 17] (fun a i wr => ∃ (A : Option Addr) (j c n : Nat) (hs : List FH), a = .slice A j c ∧ i = .int .i64 (j : Int) ∧ j ≤ lb ∧ Hid (ThrS w wr gm gn no d m l j A c hs n) ∧ Hid (wr.heap[w.heap.size]? = some (.cells #[.int .i64 k, .slice B lb cb, .string ⟨s.toArray⟩, .string ⟨v.toArray⟩] 26 (0, 0))) ∧ Hid (wr.heap[w.heap.size + 1]? = some (.cells #[.int .i64 0, .slice none 0 0, .string ⟨#[]⟩, .string ⟨#[]⟩] 26 (0, 0)))) (fun _ i _ => lb - (intOf i).toNat)
   case atStart => exact ⟨none, 0, 0, m + 1, [], rfl, rfl, Nat.zero_le _, HS0.out, HB3.out, HR3.out⟩
   clear z0 z1 z2 z3
   case round =>
    obtain ⟨A, j, c, n, hs, rfl, rfl, hj, HS, HBX, HRX⟩ := hrel
    have hn200 := (thruL_le aloneF _ _ _ _ HS.out.cnt).2 (by have := HC.out.1; omega)
    have hjn : j ≤ 200 := by
     have h8 := (thruL_le aloneF _ _ _ _ HS.out.cnt).1
     rw [List.length_take, HL.out, Nat.min_eq_left hj] at h8
     omega
    have HKW : Hid (Keeps [] w0 wr) := HK0.out.trans HS.out.keep (fun x hx => .inr (by rw [List.mem_singleton.1 hx]; exact hgm0))
    have hgr := lt_of_heap HS.out.pass.many
    by_cases hlt : j < lb
    ·have hx : l[j]? = some (l[j]'(by have := HL.out; omega)) := List.getElem?_eq_getElem _
     obtain ⟨b9, o1, hh, rfl, hc0, hat⟩ := HI.out.at_ j _ hx
     rw [Nat.zero_add] at hc0
     have hc9 : ∀ q u, (FH.list hh)[q]? = some u → wr.cell? ⟨b9, o1 + j * 4 + q, none⟩ = some u := fun q u hu => (HKW.out.cell (lt_of_cell (hc0 q u hu)) (by simp)).trans (hc0 q u hu)
     obtain ⟨g0, g1, g2', g3⟩ := four_at hc9
     have hmem : (l[j]'(by have := HL.out; omega)) ∈ l := List.getElem_mem _
     generalize hxx : l[j]'(by have := HL.out; omega) = x at *
     obtain ⟨k', B', lb', cb', s', v'⟩ := hh
     have HXX := Lib.hid hx
     have HREC : Hid (∀ X, Keeps [] wr X → Calls Tryz.prog 132 #[.agg #[.int .i64 k', .slice B' lb' cb', .string ⟨s'.toArray⟩, .string ⟨v'.toArray⟩], .int .i64 ((d : Int) + 1), .pointer (some ⟨gp, 0, none⟩), .pointer (some ⟨gx, 0, none⟩), .pointer (some ⟨gw, 0, none⟩)] X (ThrQ no (d + 1) n x gm gn X)) := fun X hX => by
      have h9 := IH.out x hmem (d + 1) n ⟨k', B', lb', cb', s', v'⟩ X (by have := HC.out.2; omega) hn200 hat (HKW.out.trans' hX) (HE.out.keep (HS.out.keep.trans hX (by simp))) (((HS.out.keep.trans hX (by simp)).cell (p := ⟨g2, 0, none⟩) (lt_of_cell HNO.out) (by simpa using h2m)).trans HNO.out) (HS.out.pass.keep hX (by simp) (by simp))
      rw [show ((d + 1 : Nat) : Int) = (d : Int) + 1 by omega] at h9
      exact h9
     obtain ⟨e1, e2, e3, _, _, _⟩ := HE.out.keep (HS.out.keep.trans ((Keeps.refl [] wr).alloc (.cells #[.int .i64 k', .slice B' lb' cb', .string ⟨s'.toArray⟩, .string ⟨v'.toArray⟩] 26)) (by simp))
     have hw : IntKind.i64.wrap ((d : Int) + 1) = ((d : Int) + 1) := IntWalk.i64_in _ (by have := HC.out.2; omega)
     have hji : (j : Int) < (lb : Int) := by omega
     have hj0 : (0 : Int) ≤ (j : Int) := by omega
     clear hx hat hc0 hc9 hxx hmem
     go_wp2_with fail
     refine (HREC.out _ ((Keeps.refl [] wr).alloc _)).mono ?_
     rintro e w6 ⟨⟨n', h', hn', rfl, hp6, hr6⟩ | ⟨hn', rfl⟩, hk6⟩
     ·have HN6 := Lib.hid hn'
      have HP6 := Lib.hid hp6
      have HR6 := Lib.hid hr6
      have HK6 := Lib.hid hk6
      obtain ⟨k6, B6, lb6, cb6, s6, v6⟩ := h'
      unfold FH.val tv
      dsimp only
      have HK7 : Hid (Keeps [gm] wr (w6.alloc (.cells #[.int .i64 k6, .slice B6 lb6 cb6, .string ⟨s6.toArray⟩, .string ⟨v6.toArray⟩] 26))) := (((Keeps.refl [] wr).alloc _).mono (cs := [gm]) (by simp)).trans' hk6 |>.alloc _
      have HROW : Hid ((w6.alloc (.cells #[.int .i64 k6, .slice B6 lb6 cb6, .string ⟨s6.toArray⟩, .string ⟨v6.toArray⟩] 26)).ownsRow (w.heap.size + 2) 26 4 (.slice A j c) j (headsF hs)) := own_keep HS.out.row HK7.out (fun b hb hm => by have := (HS.out.row.lt b hb).1; simp at hm; omega)
      have HSZ : Hid (w.heap.size + 2 ≤ (w6.alloc (.cells #[.int .i64 k6, .slice B6 lb6 cb6, .string ⟨s6.toArray⟩, .string ⟨v6.toArray⟩] 26)).heap.size) := Nat.le_trans HS.out.siz HK7.out.size
      clear hn' hp6 hr6 hk6 g0 g1 g2' g3 e1 e2 e3
      go_wp2_with (at_builtin; refine wpList_append_opt rfl (.tmp 21) (.tmp 27) 24 rfl (w.heap.size + 2) 26 iu _ 4 64 Tryz.underlying24 hiu hzu0 hzu1 hzu2 rfl (by decide) (.slice A j c) j (headsF hs) rfl HROW.out (some ⟨w6.heap.size, 0, none⟩) 1 1 (FH.list ⟨k6, B6, lb6, cb6, s6, v6⟩) rfl rfl (src_one8 w6 ⟨k6, B6, lb6, cb6, s6, v6⟩ _) (by intro u hu; simp [FH.list, tv] at hu; rcases hu with rfl | rfl | rfl | rfl <;> rfl) (by unfold maxLen; omega) (by omega) HSZ.out ?_; intro v8 w8 ho hg8 hs8; obtain ⟨A8, c8, hv8⟩ := own_slice ho; subst hv8; have HY := Lib.hid (HS.out.step hgmw hgnw HXX.out ((Keeps.refl [] wr).alloc _) HN6.out HK6.out HP6.out HR6.out ((Keeps.refl [] w6).alloc _) ho hg8 hs8); have HBX8 := Lib.hid (boxes_on HS.out.row HK7.out hg8 (by omega) (by omega) HBX.out); have HRX8 := Lib.hid (boxes_on HS.out.row HK7.out hg8 (by omega) (by omega) HRX.out); clear ho hg8 hs8)
      go_roundw
      case rel => exact ⟨A8, j + 1, c8, n', _, rfl, by go_num, by omega, HY.out, HBX8.out, HRX8.out⟩
      case measure => simp [intOf]; omega
     ·have HT : Hid (thruF aloneF d m (.mk k l s v) = none) := by
       show _ = _
       rw [thrF_in HC.out]
       have h8 : thruL aloneF (d + 1) (m + 1) (l.take (j + 1)) = none := by
        rw [List.take_add_one, HXX.out]
        show thruL _ _ _ (l.take j ++ [x]) = none
        rw [thruL_snoc, HS.out.cnt]
        exact hn'
       have h7 := thruL_none aloneF (d + 1) (l.take (j + 1)) (l.drop (j + 1)) (m + 1) h8
       rw [List.take_append_drop] at h7
       rw [h7]
      have HK9 := Lib.hid ((HS.out.keep.trans ((Keeps.refl [] wr).alloc (.cells #[.int .i64 k', .slice B' lb' cb', .string ⟨s'.toArray⟩, .string ⟨v'.toArray⟩] 26)) (by simp)).trans' hk6)
      clear hk6 hn' g0 g1 g2' g3 e1 e2 e3
      go_wp2_with fail
      exact ⟨rfl, .inr ⟨HT.out, rfl⟩, HK9.out⟩
    ·obtain rfl : j = lb := by omega
     have htl : l.take j = l := List.take_of_length_le (by rw [HL.out]; exact Nat.le_refl _)
     have HCN : Hid (thruF aloneF d m (.mk k l s v) = if aloneH k j s v = true then some n else none) := by
      have h8 := HS.out.cnt
      rw [htl] at h8
      show _ = _
      rw [thrF_in HC.out, h8, aloneF_is, HL.out]
     have HCS := Lib.hid (fun X (hX : Keeps [] wr X) => soundc_is ⟨k, B, j, cb, s, v⟩ A j c g2 no X HSL.out.1 HSL.out.2 (((HS.out.keep.trans hX (by simp)).cell (p := ⟨g2, 0, none⟩) (lt_of_cell HNO.out) (by simpa using h2m)).trans HNO.out))
     obtain ⟨e1, e2, e3, _, _, _⟩ := HE.out.keep HS.out.keep
     obtain ⟨⟨z0, z1, z2, z3⟩, _⟩ := four_facts8 HBX.out
     unfold FH.val tv at HCS
     dsimp only at HCS
     go_wp2_with fail
     refine (HCS.out wr (Keeps.refl _ _)).mono ?_
     rintro e w3 ⟨⟨ha, rfl⟩ | ⟨ha, rfl⟩, hk3⟩
     ·have HT : Hid (thruF aloneF d m (.mk k l s v) = some n) := by show _ = _; rw [HCN.out, if_pos ha]
      have HK3 := Lib.hid hk3
      have HR5 := Lib.hid (blk_keep HRX.out hk3 (by simp))
      obtain ⟨⟨r0, r1, r2, r3⟩, s0, s1, s2, s3⟩ := four_facts8 HR5.out
      obtain ⟨R, hR⟩ : ∃ R, w.heap.size + 1 = R := ⟨_, rfl⟩
      have HRR := Lib.hid hR
      rw [hR] at HR5 r0 r1 r2 r3 s0 s1 s2 s3 ⊢
      generalize hz : smallL s = z
      have HZ9 := Lib.hid hz
      clear ha hk3 hR hz e1 e2 e3 z0 z1 z2 z3
      go_wp2_with fail
      have HR6 := heap_setCell_same _ R 0 _ _ (.int .i64 k) HR5.out
      have HR7 := heap_setCell_same _ R 1 _ _ (.slice A j c) HR6
      have HR8 := heap_setCell_same _ R 2 _ _ (.string ⟨z.toArray⟩) HR7
      have HR9 := heap_setCell_same _ R 3 _ _ (.string ⟨v.toArray⟩) HR8
      refine bodyPost_ret (results_cell_row rfl _ _ R _ #[.int .i64 k, .slice A j c, .string ⟨z.toArray⟩, .string ⟨v.toArray⟩] (0, 0) _ rfl HR9 Tryz.underlying26 rfl (by kernel_rfl)) rfl ?_
      have k9 : Keeps [R] w3 ((((w3.setCell ⟨R, 0, none⟩ (.int .i64 k)).setCell ⟨R, 1, none⟩ (.slice A j c)).setCell ⟨R, 2, none⟩ (.string ⟨z.toArray⟩)).setCell ⟨R, 3, none⟩ (.string ⟨v.toArray⟩)) := ((((Keeps.refl [R] w3).setCell (.inl (by simp)) _).setCell (.inl (by simp)) _).setCell (.inl (by simp)) _).setCell (.inl (by simp)) _
      have hRe := HRR.out
      have kw : Keeps [R] wr ((((w3.setCell ⟨R, 0, none⟩ (.int .i64 k)).setCell ⟨R, 1, none⟩ (.slice A j c)).setCell ⟨R, 2, none⟩ (.string ⟨z.toArray⟩)).setCell ⟨R, 3, none⟩ (.string ⟨v.toArray⟩)) := (HK3.out.mono (cs := [R]) (by simp)).trans' k9
      refine ⟨.inl ⟨n, ⟨k, A, j, c, z, v⟩, HT.out, rfl, HS.out.pass.keep kw (by simp; omega) (by simp; omega), fun E X hE hk => ?_⟩, HS.out.keep.trans kw (fun x hx => .inr (by rw [List.mem_singleton.1 hx]; omega))⟩
      have kX : Keeps (R :: E) wr X := (kw.mono (cs := R :: E) (by simp)).trans hk (fun x hx => .inl (List.mem_cons_of_mem _ hx))
      have hrow := own_keep HS.out.row kX (fun b hb hm => by
       have := (HS.out.row.lt b hb).1
       rcases List.mem_cons.1 hm with hm | hm
       ·omega
       ·have := hE b hm; omega)
      have hcap := cap_of_own hrow
      have hlf : (lowFL l).length = j := by rw [lowFL_map, List.length_map]; exact HL.out
      simp only [lowF]
      refine ⟨rfl, HZ9.out.symm, rfl, HKI.out.1, HKI.out.2, by rw [smallL_len]; exact HSL.out.1, HSL.out.2, hlf, hcap.1, hcap.2, fils_own hrow HS.out.hsl hlf (fun i t' h' ht' hh' => ?_)⟩
      rw [lowFL_map, List.getElem?_map] at ht'
      cases hq : l[i]? with
      | none => rw [hq] at ht'; cases ht'
      | some t0 =>
       rw [hq] at ht'
       simp at ht'
       subst ht'
       refine HS.out.items (R :: E) X (fun x hx => ?_) kX i t0 h' (by rw [htl]; exact hq) hh'
       rcases List.mem_cons.1 hx with hx | hx
       ·exact .inl (by omega)
       ·exact .inl (by have := hE x hx; omega)
     ·have HT : Hid (thruF aloneF d m (.mk k l s v) = none) := by show _ = _; rw [HCN.out, if_neg (by rw [ha]; simp)]
      have HK3 := Lib.hid (HS.out.keep.trans hk3 (by simp))
      clear ha hk3 e1 e2 e3 z0 z1 z2 z3
      go_wp2_with fail
      exact ⟨rfl, .inr ⟨HT.out, rfl⟩, HK3.out⟩
end Go.Proofs.YtbfebljahjmjfaaGreatDoor
