/- Texts of one proof, laid together: W4 W5. -/
import Derived.Test.YtebocagkpkpghaaGreatDoorM75
/- entry: tableOf; walked. -/
namespace Go.Proofs.YtebocagkpkpghaaGreatDoor
open Go.RowKit Go.Maps Go.ChangeMaps Go.MapKept
set_option linter.unusedVariables false
set_option linter.unusedSimpArgs false
set_option maxRecDepth 100000

/-- All the Values that are told for a name, in whatever letters. -/
def gath (e : List Att) (k : Txt) : List Txt := (e.filter fun a => smallL a.1 == k).flatMap fun a => a.2
theorem gath_take {e : List Att} {j : Nat} {a : Att} (h : e[j]? = some a) (k : Txt) : gath (e.take (j + 1)) k = if k = smallL a.1 then gath (e.take j) k ++ a.2 else gath (e.take j) k := by
  unfold gath
  rw [List.take_add_one, h, List.filter_append, List.flatMap_append]
  by_cases hk : k = smallL a.1
  · rw [if_pos hk]
    simp [hk]
  · rw [if_neg hk]
    have : (smallL a.1 == k) = false := by simpa using fun e => hk e.symm
    simp [this]
/-- A table that has what attributes tell. -/
structure TabOf (w : World) (b base : Nat) (T : List At7) (e : List Att) : Prop where
  tab : TabI w b base T
  con : ∀ k, cont T k = gath e k
  len : T.length ≤ e.length
theorem StrsIn.src {w : World} {A : Option Addr} {n : Nat} {l : List Txt} (h : StrsIn w A n l) : Src w A n (l.map tv) := by
  refine ⟨fun hA => ?_, fun ad hA j u hu => ?_⟩
  · rcases Nat.eq_zero_or_pos n with h0 | h0
    · exact h0
    · obtain ⟨b, o, e, _⟩ := h.2.2 h0
      rw [hA] at e
      cases e
  · rw [List.getElem?_map] at hu
    obtain ⟨s, hs, rfl⟩ := Option.map_eq_some_iff.1 hu
    have hp : 0 < n := by have := (List.getElem?_eq_some_iff.1 hs).1; rw [h.1] at this; omega
    obtain ⟨b, o, e, hc⟩ := h.2.2 hp
    rw [hA] at e
    injection e with e
    rw [e, add_at]
    exact hc j s hs
theorem tvs_one (l : List Txt) : ∀ u ∈ l.map tv, u.oneCell' = true := by
  intro u hu
  obtain ⟨s, _, rfl⟩ := List.mem_map.1 hu
  rfl
/-- The slice that a table has at a name (none: the nil one), and its row. -/
theorem TabI.at_ {w : World} {b base : Nat} {T : List At7} (h : TabI w b base T) (k : Txt) : ∃ A n c, vval (vt T) k = .slice A n c ∧ (cont T k).length = n ∧ w.ownsRow base 9 1 (.slice A n c) n ((cont T k).map tv) ∧ (∀ s ∈ cont T k, s.length ≤ 9223372036854775807) ∧ ∀ a ∈ T, a.name ≠ k → a.val.ownBlock ≠ (Value.slice A n c).ownBlock := by
  rw [vt_val]
  unfold cont
  cases hg : aget T k with
  | none => exact ⟨none, 0, 0, rfl, rfl, World.ownsRow_nil _ _ _ _, by simp, fun a ha _ e => by
      obtain ⟨g, h1, _⟩ := (h.rows a ha).1.blk (h.rows a ha).2
      rw [h1] at e
      simp [Value.ownBlock] at e⟩
  | some a =>
    obtain ⟨h1, h2⟩ := aget_mem hg
    have hr := (h.rows a h1).1
    exact ⟨a.A, a.n, a.c, rfl, hr.len, hr.row, hr.txt, fun a' ha' hd => h.apart a' ha' a h1 (by rw [h2]; exact hd)⟩

/-- What an append to a table's slice leaves: all of the table but that slice's own entry. -/
theorem TabI.grown {w w' : World} {b base : Nat} {T : List At7} {k : Txt} {v : Value} (h : TabI w b base T) (hg : w.grownBy w' v.ownBlock) (hb : ∀ g, v.ownBlock = some g → ∃ cs, w.heap[g]? = some (.cells cs 9 (0, 0))) (ha : ∀ a ∈ T, a.name ≠ k → a.val.ownBlock ≠ v.ownBlock) : TabX w' b base T k := by
  have hk : Keeps v.ownBlock.toList w w' := Keeps.of_grown hg (fun x hx => .inl (by rw [hx]; simp))
  refine ⟨h.map.keep hk (fun hm => ?_), h.ge, fun a hm hd => ⟨(h.rows a hm).1.keep hk (fun g hgg hmm => ?_), (h.rows a hm).2⟩, fun a hm a' hm' _ _ hd => h.apart a hm a' hm' hd⟩
  · have h9 : v.ownBlock = some b := by simpa using hm
    obtain ⟨cs, h4⟩ := hb b h9
    exact h.map.notcells h4
  · have h9 : v.ownBlock = some g := by simpa using hmm
    exact ha a hm hd (hgg.trans h9.symm)
theorem own_cells {w : World} {base n c : Nat} {A : Option Addr} {xs : List Value} (h : w.ownsRow base 9 1 (.slice A n c) n xs) : ∀ g, (Value.slice A n c).ownBlock = some g → ∃ cs, w.heap[g]? = some (.cells cs 9 (0, 0)) := fun g hg => by
  rcases h.2 with ⟨hv, h2⟩ | ⟨g', cap, cur, hA, _, hh, r⟩
  · rw [hv] at hg
    simp [Value.ownBlock] at hg
  · rw [hA] at hg
    simp [Value.ownBlock] at hg
    subst hg
    exact ⟨cur, hh⟩
end Go.Proofs.YtebocagkpkpghaaGreatDoor
/- entry: tableOf; walked. -/
namespace Go.Proofs.YtebocagkpkpghaaGreatDoor
open Go.RowKit Go.Maps Go.ChangeMaps Go.MapKept
set_option linter.unusedVariables false
set_option linter.unusedSimpArgs false
set_option maxRecDepth 100000

theorem gath_len {e : List Att} {m : Nat} (h : ∀ a ∈ e, a.2.length ≤ m) (k : Txt) : (gath e k).length ≤ e.length * m := by
  induction e with
  | nil => simp [gath]
  | cons a r ih =>
    have h1 := ih (fun x hx => h x (List.mem_cons_of_mem _ hx))
    have h2 := h a (by simp)
    have h3 : (gath (a :: r) k).length ≤ a.2.length + (gath r k).length := by
      unfold gath
      rw [List.filter_cons]
      split
      · simp
      · omega
    rw [List.length_cons, Nat.add_mul, Nat.one_mul]
    omega
theorem TabOf.next {w7 : World} {b base : Nat} {T T' : List At7} {e : List Att} {j : Nat} {a : Att} (hc : ∀ k, cont T k = gath (e.take j) k) (hl : T.length ≤ (e.take j).length) (hT : TabI w7 b base T') (hu : e[j]? = some a) (hn : ∀ k, cont T' k = if k = smallL a.1 then cont T (smallL a.1) ++ a.2 else cont T k) (hlen : T'.length ≤ T.length + 1) : TabOf w7 b base T' (e.take (j + 1)) := by
  refine ⟨hT, fun k => ?_, ?_⟩
  · rw [hn k, gath_take hu k]
    by_cases hk : k = smallL a.1
    · rw [if_pos hk, if_pos hk, hc, hk]
    · rw [if_neg hk, if_neg hk, hc]
  · have h1 := (List.getElem?_eq_some_iff.1 hu).1
    rw [List.length_take] at hl ⊢
    omega

set_option maxHeartbeats 8000000 in
theorem tableof_is (A : Option Addr) (n c : Nat) (l : List At7) (w : World) (h : EntIn w A n l) (hf : Few7 1000 l) :
    Calls Tryz.prog 33 #[.slice A n c] w fun e w' => ∃ b T, e = .returned (.map (some b)) ∧ TabOf w' b w.heap.size T (ents l) ∧ Keeps [] w w' := by
  obtain ⟨iu, hiu, hzu0, hzu1, hzu2⟩ := info_parts str_info7
  have HD := Lib.hid h
  have HF := Lib.hid hf
  have hn : n ≤ 1000 := by rw [← h.1]; exact hf.1
  have HEL : Hid ((ents l).length = n) := by show _ = _; rw [ents_len, h.1]
  have HGL : Hid (∀ j k, j ≤ n → (gath ((ents l).take j) k).length ≤ 1000000) := fun j k hj => by
    have h1 := gath_len (e := (ents l).take j) (m := 1000) (fun a ha => by
      have ha := List.mem_of_mem_take ha
      unfold ents at ha
      obtain ⟨x, hx, rfl⟩ := List.mem_map.1 ha
      show x.vs.length ≤ 1000
      rw [(h.2.1 x hx).2.2.2.1]
      exact hf.2 x hx) k
    rw [List.length_take] at h1
    have h2 : min j (ents l).length * 1000 ≤ 1000 * 1000 := Nat.mul_le_mul_right _ (by omega)
    omega
  have HK0 : Hid (Keeps [] w (w.alloc (.map #[] 0))) := (Keeps.refl [] w).alloc _
  have HT0 : Hid (TabOf (w.alloc (.map #[] 0)) w.heap.size w.heap.size [] []) := ⟨TabI.made w w.heap.size (Nat.le_refl _), fun k => rfl, Nat.le_refl _⟩
  clear h hf
  have hmk : (Instr.makeMap 63 none).run Tryz.prog w = .ok (.map (some w.heap.size)) (w.alloc (.map #[] 0)) := rfl
  go_enter Tryz.func33, Tryz.ntmps33
  go_wp2_with fail
  clear hmk
  generalize (w.alloc (.map #[] 0)) = W0 at *
  obtain ⟨b, hb⟩ : ∃ b, w.heap.size = b := ⟨_, rfl⟩
  have HB : Hid (w.heap.size = b) := hb
  rw [hb] at HT0
  simp only [hb]
  clear hb
  go_loopw [10] (fun i wr => ∃ (j : Nat) (T : List At7), i = .int .i64 (j : Int) ∧ j ≤ n ∧ Hid (TabOf wr b b T ((ents l).take j)) ∧ Hid (Keeps [] w wr)) (fun i _ => n - (intOf i).toNat)
  case atStart => exact ⟨0, [], rfl, Nat.zero_le _, HT0.out, HK0.out⟩
  case round =>
    obtain ⟨j, T, rfl, hj, HT, HKR⟩ := hrel
    by_cases hlt : j < n
    · obtain ⟨hl, hp, hc9⟩ := EntIn.grow HKR.out HD.out
      obtain ⟨b1, o, hA9, hcc⟩ := hc9 (by omega)
      clear hc9
      subst hA9
      obtain ⟨a, hu⟩ : ∃ a, l[j]? = some a := ⟨_, List.getElem?_eq_getElem (by omega)⟩
      obtain ⟨c0, c1⟩ := hcc j a hu
      have hfit := hp a (List.mem_of_getElem? hu)
      have hfn := HF.out.2 a (List.mem_of_getElem? hu)
      have HUE := Lib.hid (ents_at hu)
      obtain ⟨nm, aA, an, ac, avs⟩ := a
      obtain ⟨hnm, hnc, hac, hV⟩ := hfit
      dsimp only at c0 c1 hnm hV hfn
      unfold tv at c0
      have hji : (j : Int) < (n : Int) := by omega
      have HK4 : Hid (Keeps [] wr (wr.alloc (.cells #[.string ⟨nm.toArray⟩, .slice aA an ac] 59))) := (Keeps.refl [] wr).alloc _
      have HD4 : Hid (∀ X, Keeps [] (wr.alloc (.cells #[.string ⟨nm.toArray⟩, .slice aA an ac] 59)) X → X.cell? ⟨wr.heap.size, 0, none⟩ = some (.string ⟨nm.toArray⟩) ∧ X.cell? ⟨wr.heap.size, 1, none⟩ = some (.slice aA an ac)) := fun X hX => (blk2 (blk_keep (heap_new8 wr (.cells #[.string ⟨nm.toArray⟩, .slice aA an ac] 59)) hX (by simp))).1
      obtain ⟨w4, hw4⟩ : ∃ w4, wr.alloc (.cells #[.string ⟨nm.toArray⟩, .slice aA an ac] 59) = w4 := ⟨_, rfl⟩
      rw [hw4] at HK4 HD4
      obtain ⟨d0, d1⟩ := HD4.out w4 (Keeps.refl _ _)
      have HSM := Lib.hid (small_is nm w4 hnm)
      have hzl : (smallL nm).length ≤ 9223372036854775807 := by rw [smallL_len]; exact hnm
      obtain ⟨z, hz⟩ : ∃ z, smallL nm = z := ⟨_, rfl⟩
      have HZ := Lib.hid hz
      rw [hz] at HSM hzl
      have HV := Lib.hid hV
      have HZL := Lib.hid hzl
      have HFN := Lib.hid hfn
      clear hcc hu hp hl hz hV hzl hfn hnm hnc hac
      go_wp2_with fail
      refine HSM.out.mono ?_
      rintro e w5 ⟨rfl, hk5⟩
      obtain ⟨g0, g1⟩ := HD4.out w5 hk5
      have HK5 : Hid (Keeps [] wr w5) := HK4.out.trans' hk5
      have HT5 : Hid (TabI w5 b b T) := HT.out.tab.keep HK5.out (by simp)
      obtain ⟨A0, n0, c0', hval, hlen, hrow, htxt, hap⟩ := HT5.out.at_ z
      have hlook := run_vlook HT5.out.map 63 Tryz.underlying63 z (by have := HZL.out; unfold maxLen; omega)
      rw [hval] at hlook
      have HRW := Lib.hid hrow
      have HLN := Lib.hid hlen
      have HTX := Lib.hid htxt
      have HAP := Lib.hid hap
      have hn0 : n0 ≤ 1000000 := by
        rw [← hlen, HT.out.con]
        exact HGL.out j z hj
      have HB1 : Hid (n0 + an ≤ maxLen) := by have := HFN.out; show _ ≤ _; unfold maxLen; omega
      have HB2 : Hid ((n0 + an) * 16 ≤ 140737488355328) := by have := HFN.out; show _ ≤ _; omega
      have HB3 : Hid (b ≤ w5.heap.size) := by have := (HKR.out.trans' HK5.out).size; have := HB.out; show _ ≤ _; omega
      have HS5 : Hid (StrsIn w5 aA an avs) := StrsIn.grow HK5.out HV.out
      clear hk5 d0 d1 hval hlen hrow htxt hap
      go_wp2_with (at_builtin; refine wpList_append_opt rfl (.tmp 21) (.tmp 23) 40 rfl b 9 iu _ 1 16 Tryz.underlying40 hiu hzu0 hzu1 hzu2 rfl (by decide) (.slice A0 n0 c0') n0 ((cont T z).map tv) rfl HRW.out aA an ac (avs.map tv) rfl (by rw [List.length_map, HS5.out.1, Nat.mul_one]) HS5.out.src (tvs_one avs) HB1.out HB2.out HB3.out ?_; intro v6 w6 ho hg6 hs6; obtain ⟨A6, c6, hv6⟩ := own_slice ho; subst hv6; have HO6 := Lib.hid ho; have HG6 := Lib.hid hg6; have HS6 := Lib.hid hs6; clear ho hg6 hs6)
      have HX6 : Hid (TabX w6 b b T z) := HT5.out.grown HG6.out (own_cells HRW.out) HAP.out
      have HK6 : Hid (Keeps [] w w6) := by
        have h9 := keeps_own7 (w := w) (by rw [HB.out]; exact HRW.out) (HKR.out.trans' HK5.out) HG6.out
        exact h9
      have HLX : Hid ((cont T z ++ avs).length = n0 + an) := by show _ = _; rw [List.length_append, HLN.out, HS5.out.1]
      have HTL : Hid (T.length ≤ 100000) := by
        have h1 := HT.out.len
        rw [List.length_take, HEL.out] at h1
        show _ ≤ _
        omega
      rcases Nat.eq_zero_or_pos (n0 + an) with h0 | h0
      · have HCE : Hid (cont T z ++ avs = []) := List.length_eq_zero_iff.1 (HLX.out.trans h0)
        rw [h0]
        refine (put_none b b T z A6 c6 w6 HX6.out HZL.out).mono ?_
        rintro e w7 ⟨⟨v7, rfl⟩, ht7, hk7⟩
        have HN7 : Hid (TabOf w7 b b (adel T z) ((ents l).take (j + 1))) := TabOf.next (T := T) HT.out.con HT.out.len ht7 HUE.out (fun k => by
          show _ = if k = smallL nm then cont T (smallL nm) ++ avs else _
          rw [HZ.out, cont_del HT.out.tab.rise k]
          by_cases hk : k = z
          · rw [if_pos hk, if_pos hk]; exact HCE.out.symm
          · rw [if_neg hk, if_neg hk]) (by have := adel_len T z; omega)
        have HK7 : Hid (Keeps [] w w7) := HK6.out.trans hk7 (fun x hx => .inr (by simp at hx; subst hx; rw [HB.out]; exact Nat.le_refl _))
        clear ht7 hk7
        go_wp2_with fail
        go_roundw
        case rel => exact ⟨j + 1, adel T z, by go_num, by omega, HN7.out, HK7.out⟩
        case measure => simp [intOf]; omega
      · have HRO : Hid (RowOk w6 b ⟨z, A6, n0 + an, c6, cont T z ++ avs⟩) := ⟨by rw [List.map_append]; exact HO6.out, HLX.out, fun s hs => by
            rcases List.mem_append.1 hs with hs | hs
            · exact HTX.out s hs
            · exact HS5.out.2.1 s hs, HZL.out⟩
        refine (put_some b b T ⟨z, A6, n0 + an, c6, cont T z ++ avs⟩ w6 HX6.out HRO.out h0 (fun a ha hd e => ?_) HTL.out).mono ?_
        · rcases HS6.out with h9 | h9
          · exact HAP.out a ha hd (e.trans h9)
          · have h8 : a.val.ownBlock = some w5.heap.size := e.trans h9
            have := ((HT5.out.rows a ha).1.row.lt _ h8).2
            omega
        rintro e w7 ⟨⟨v7, rfl⟩, ht7, hk7⟩
        have HN7 : Hid (TabOf w7 b b (aput T ⟨z, A6, n0 + an, c6, cont T z ++ avs⟩) ((ents l).take (j + 1))) := TabOf.next (T := T) HT.out.con HT.out.len ht7 HUE.out (fun k => by
          show _ = if k = smallL nm then cont T (smallL nm) ++ avs else _
          rw [HZ.out, cont_put HT.out.tab.rise ht7.rise k]) (aput_len T _)
        have HK7 : Hid (Keeps [] w w7) := HK6.out.trans hk7 (fun x hx => .inr (by simp at hx; subst hx; rw [HB.out]; exact Nat.le_refl _))
        clear ht7 hk7
        go_wp2_with fail
        go_roundw
        case rel => exact ⟨j + 1, _, by go_num, by omega, HN7.out, HK7.out⟩
        case measure => simp [intOf]; omega
    · obtain rfl : j = n := by omega
      have h9 := HT.out
      rw [List.take_of_length_le (by rw [HEL.out]; exact Nat.le_refl _)] at h9
      have H9 := Lib.hid h9
      clear h9
      go_wp2_with fail
      go_ret
      exact ⟨b, T, rfl, by rw [HB.out]; exact H9.out, HKR.out⟩
end Go.Proofs.YtebocagkpkpghaaGreatDoor
