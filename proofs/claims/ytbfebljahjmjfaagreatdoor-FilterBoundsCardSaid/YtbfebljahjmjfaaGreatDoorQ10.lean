import Derived.Test.YtbfebljahjmjfaaGreatDoorQ09
import Derived.BigQuiet
/- filter: slices.Contains of truths, strings.HasPrefix, slices.ContainsFunc; walked. -/
namespace Go.Proofs.YtbfebljahjmjfaaGreatDoor
open Go.RowKit Go.Shelf
set_option linter.unusedVariables false
set_option linter.unusedSimpArgs false
set_option maxRecDepth 100000

/-- Truths in memory. -/
def BoolsIn (w : World) (A : Option Addr) (n : Nat) (l : List Bool) : Prop :=
 l.length = n ∧ (0 < n → ∃ b o, A = some ⟨b, o, none⟩ ∧ ∀ (i : Nat) (s : Bool), l[i]? = some s → w.cell? ⟨b, o + i, none⟩ = some (.bool s))
theorem BoolsIn.grow {w w' : World} {A : Option Addr} {n : Nat} {l : List Bool} (hk : Keeps [] w w') (h : BoolsIn w A n l) : BoolsIn w' A n l := by
 obtain ⟨h1, h3⟩ := h
 refine ⟨h1, fun hp => ?_⟩
 obtain ⟨b, o, e, hc⟩ := h3 hp
 exact ⟨b, o, e, fun i s hi => (hk.cell (lt_of_cell (hc i s hi)) (by simp)).trans (hc i s hi)⟩
theorem BoolsIn.of_own {w : World} {B n c : Nat} {A : Option Addr} {t : TypeId} {l : List Bool} (h : w.ownsRow B t 1 (.slice A n c) n (l.map Value.bool)) (hn : l.length = n) : BoolsIn w A n l := by
 refine ⟨hn, fun hp => ?_⟩
 rcases h.2 with ⟨_, h2⟩ | ⟨g, cap, cur, hA, hg, hh, r⟩
 ·omega
 ·injection hA with e1 e2 e3
  subst e1
  refine ⟨g, 0, rfl, fun i s hi => ?_⟩
  have c1 := h.cells (g := g) rfl i (Value.bool s) (by rw [List.getElem?_map, hi]; rfl)
  rw [show (⟨g, 0, none⟩ : Addr).add i = ⟨g, 0 + i, none⟩ from by unfold Addr.add; split <;> simp_all] at c1
  exact c1
theorem indexb_is (A : Option Addr) (n c : Nat) (l : List Bool) (v : Bool) (w : World) (h : BoolsIn w A n l) (hn : n ≤ 1000000) :
  Calls Tryz.prog 294 #[.slice A n c, .bool v] w fun e w' => (v ∉ l → e = .returned (.int .i64 (-1))) ∧ (v ∈ l → ∃ i : Nat, e = .returned (.int .i64 (i : Int))) ∧ w = w' := by
 have HV : Hid (BoolsIn w A n l) := h
 obtain ⟨V, hV⟩ : ∃ V : World, V = w := ⟨_, rfl⟩
 subst hV
 clear h
 go_enter Tryz.func294, Tryz.ntmps294
 go_wp2_with fail
 go_loopw [8] (fun i wr => ∃ j : Nat, i = .int .i64 (j : Int) ∧ j ≤ n ∧ Hid (v ∉ l.take j) ∧ wr = V) (fun i _ => n - (intOf i).toNat)
 case atStart => exact ⟨0, rfl, Nat.zero_le _, by simp [Hid], rfl⟩
 case round =>
  obtain ⟨j, rfl, hj, HA, rfl⟩ := hrel
  by_cases hlt : j < n
  ·obtain ⟨hl, hc9⟩ := HV.out
   obtain ⟨b, o, hA9, hcc⟩ := hc9 (by omega)
   subst hA9
   obtain ⟨s, hu⟩ : ∃ s, l[j]? = some s := ⟨_, List.getElem?_eq_getElem (by omega)⟩
   have c0 := hcc j s hu
   have hmem := List.mem_of_getElem? hu
   have HM : Hid (v = s → v ∈ l) := fun e => by rw [e]; exact hmem
   have HNX : Hid (v ≠ s → v ∉ l.take (j + 1)) := fun hd => by
    rw [List.take_add_one, hu, List.mem_append]
    rintro (h9 | h9)
    ·exact HA.out h9
    ·simp at h9
     exact hd h9
   have hji : (j : Int) < (n : Int) := by omega
   have hj0 : 0 ≤ (j : Int) := by omega
   clear hcc hu hl hc9 hmem
   by_cases heq : v = s
   ·have HM2 := Lib.hid (HM.out heq)
    subst heq
    have hvv : (v == v) = true := by simp
    go_wp2_with fail
    go_ret
    exact ⟨fun h9 => absurd HM2.out h9, fun _ => ⟨j, rfl⟩, rfl⟩
   ·have HN2 := Lib.hid (HNX.out heq)
    have hvs : (v == s) = false := by simpa using heq
    cases v <;> cases s
    ·exact absurd rfl heq
    ·go_wp2_with fail
     go_roundw
     case rel => exact ⟨j + 1, by go_num, by omega, HN2.out, trivial⟩
     case measure => simp [intOf]; omega
    ·go_wp2_with fail
     go_roundw
     case rel => exact ⟨j + 1, by go_num, by omega, HN2.out, trivial⟩
     case measure => simp [intOf]; omega
    ·exact absurd rfl heq
  ·obtain rfl : j = n := by omega
   have h9 := HA.out
   rw [List.take_of_length_le (by rw [HV.out.1]; exact Nat.le_refl _)] at h9
   have H9 := Lib.hid h9
   clear h9
   go_wp2_with fail
   go_ret
   exact ⟨fun _ => rfl, fun h9 => absurd h9 H9.out, rfl⟩
theorem containsb_is (A : Option Addr) (n c : Nat) (l : List Bool) (v : Bool) (w : World) (h : BoolsIn w A n l) (hn : n ≤ 1000000) :
  Calls Tryz.prog 255 #[.slice A n c, .bool v] w fun e w' => e = .returned (.bool (l.contains v)) ∧ w = w' := by
 have HI := Lib.hid (indexb_is A n c l v w h hn)
 clear h
 by_cases hm : v ∈ l
 ·have hc : l.contains v = true := by simpa using hm
  rw [hc]
  go_enter Tryz.func255, Tryz.ntmps255
  go_wp2_with fail
  refine HI.out.mono ?_
  rintro e w1 ⟨_, h2, rfl⟩
  obtain ⟨i, rfl⟩ := h2 hm
  have hi : (0 : Int) ≤ (i : Int) := by omega
  clear h2 hm hc
  go_wp2_with fail
  go_ret
  exact ⟨by first | rfl | simp, rfl⟩
 ·have hc : l.contains v = false := by simpa using hm
  rw [hc]
  go_enter Tryz.func255, Tryz.ntmps255
  go_wp2_with fail
  refine HI.out.mono ?_
  rintro e w1 ⟨h1, _, rfl⟩
  obtain rfl := h1 hm
  clear h1 hm hc
  go_wp2_with fail
  go_ret
  exact ⟨by first | rfl | simp, rfl⟩
/-- Does a text begin so? -/
def begP (p s : Txt) : Bool := s.take p.length == p
theorem str_to8 (T : Txt) (j : Nat) (hj : j ≤ T.length) (W : World) : (Instr.slice 9 (.string ⟨T.toArray⟩) none (some (.int .i64 (j : Int))) none).run Tryz.prog W = .ok (.string ⟨(T.take j).toArray⟩) W := by
 rw [run_slice_string_to_if W 9 ⟨T.toArray⟩ .i64 (j : Int) Tryz.underlying9, if_pos ⟨by omega, by show (j : Int) ≤ (T.length : Int); omega⟩]
 rw [show ((j : Int)).toNat = j by omega, ByteArray.extract_mk]
 rfl
theorem slprefix_is (s p : Txt) (w : World) (hs : s.length ≤ 9223372036854775807) (hp : p.length ≤ 9223372036854775807) :
  Calls Tryz.prog 138 #[tv s, tv p] w fun e w' => e = .returned (.bool (begP p s)) ∧ Keeps [] w w' := by
 obtain ⟨n, hn⟩ : ∃ n, s.length = n := ⟨_, rfl⟩
 obtain ⟨m, hm⟩ : ∃ n, p.length = n := ⟨_, rfl⟩
 have hsz : (⟨s.toArray⟩ : ByteArray).size = n := hn
 have hpz : (⟨p.toArray⟩ : ByteArray).size = m := hm
 obtain ⟨q, hq⟩ : ∃ q, begP p s = q := ⟨_, rfl⟩
 have HQ := Lib.hid hq
 have HN := Lib.hid hn
 have HM := Lib.hid hm
 rw [hq]
 rw [hn] at hs
 rw [hm] at hp
 clear hn hm hq
 unfold tv
 by_cases h : m ≤ n
 ·have hi : (m : Int) ≤ (n : Int) := by omega
  have hto := str_to8 s m (by rw [HN.out]; exact h)
  have hb := tx_beq (s.take m) p q (by rw [← HQ.out]; unfold begP; rw [HM.out])
  obtain ⟨hs1, hs2, hs3⟩ := hb
  have hup : (s.take m == p) = q := by rw [← HQ.out]; unfold begP; rw [HM.out]
  generalize s.take m = u at hto hs1 hs2 hs3 hup
  go_enter Tryz.func138, Tryz.ntmps138
  go_wp2_with fail
  go_ret
  rw [← hup]
  exact ⟨rfl, Keeps.refl _ _⟩
 ·have hi : ¬ (m : Int) ≤ (n : Int) := by omega
  have hq : q = false := by
   rw [← HQ.out]
   unfold begP
   rw [beq_eq_false_iff_ne]
   intro e
   have := congrArg List.length e
   rw [List.length_take, HN.out, HM.out] at this
   omega
  subst hq
  go_enter Tryz.func138, Tryz.ntmps138
  go_wp2_with fail
  go_ret
  exact ⟨rfl, Keeps.refl _ _⟩
theorem sprefix_is (s p : Txt) (w : World) (hs : s.length ≤ 9223372036854775807) (hp : p.length ≤ 9223372036854775807) :
  Calls Tryz.prog 84 #[tv s, tv p] w fun e w' => e = .returned (.bool (begP p s)) ∧ Keeps [] w w' := by
 have HC := Lib.hid (slprefix_is s p w hs hp)
 obtain ⟨q, hq⟩ : ∃ q, begP p s = q := ⟨_, rfl⟩
 rw [hq] at HC ⊢
 unfold tv at *
 clear hq
 go_enter Tryz.func84, Tryz.ntmps84
 go_wp2_with fail
 refine HC.out.mono ?_
 rintro e w1 ⟨rfl, hk1⟩
 have HK1 := Lib.hid hk1
 clear hk1
 go_wp2_with fail
 go_ret
 exact ⟨rfl, HK1.out⟩
theorem indexfv_is (g : Nat) (p : Txt → Bool) (A : Option Addr) (n c : Nat) (l : List Txt) (w : World) (hG : ∀ s ∈ l, ∀ X, Keeps [] w X → Calls Tryz.prog 257 #[tv s, .pointer (some ⟨g, 0, none⟩)] X fun e w' => e = .returned (.bool (p s)) ∧ Keeps [] X w') (h : StrsIn w A n l) (hn : n ≤ 1000000) :
  Calls Tryz.prog 267 #[.slice A n c, .func (.func 257) #[] #[.pointer (some ⟨g, 0, none⟩)]] w fun e w' =>
   (l.any p = false ∧ e = .returned (.int .i64 (-1)) ∨ l.any p = true ∧ ∃ i : Nat, e = .returned (.int .i64 (i : Int))) ∧ Keeps [] w w' := by
 have HV : Hid (StrsIn w A n l) := h
 have HG := Lib.hid hG
 clear h hG
 go_enter Tryz.func267, Tryz.ntmps267
 go_wp2_with fail
 go_loopw [8] (fun i wr => ∃ j : Nat, i = .int .i64 (j : Int) ∧ j ≤ n ∧ Hid ((l.take j).any p = false) ∧ Hid (Keeps [] w wr)) (fun i _ => n - (intOf i).toNat)
 case atStart => exact ⟨0, rfl, Nat.zero_le _, by simp [Hid], Keeps.refl _ _⟩
 case round =>
  obtain ⟨j, rfl, hj, HA, HKR⟩ := hrel
  by_cases hlt : j < n
  ·obtain ⟨hl, hp, hc9⟩ := StrsIn.grow HKR.out HV.out
   obtain ⟨b, o, hA9, hcc⟩ := hc9 (by omega)
   subst hA9
   obtain ⟨s, hu⟩ : ∃ s, l[j]? = some s := ⟨_, List.getElem?_eq_getElem (by omega)⟩
   have c0 := hcc j s hu
   have HU := Lib.hid hu
   have HGS := Lib.hid (HG.out s (List.mem_of_getElem? hu) wr HKR.out)
   obtain ⟨r, hr⟩ : ∃ r, p s = r := ⟨_, rfl⟩
   rw [hr] at HGS
   have HR := Lib.hid hr
   unfold tv at c0 HGS
   have hji : (j : Int) < (n : Int) := by omega
   have hj0 : 0 ≤ (j : Int) := by omega
   clear hcc hu hp hl hc9 hr
   go_wp2_with fail
   refine HGS.out.mono ?_
   rintro e w1 ⟨rfl, hk1⟩
   have HK1 := Lib.hid (HKR.out.trans' hk1)
   clear hk1
   cases r
   ·have HN2 : Hid ((l.take (j + 1)).any p = false) := by
     show _ = _
     rw [List.take_add_one, HU.out, List.any_append, HA.out]
     simp [HR.out]
    go_wp2_with fail
    go_roundw
    case rel => exact ⟨j + 1, by go_num, by omega, HN2.out, HK1.out⟩
    case measure => simp [intOf]; omega
   ·go_wp2_with fail
    go_ret
    exact ⟨.inr ⟨List.any_eq_true.2 ⟨s, List.mem_of_getElem? HU.out, HR.out⟩, j, rfl⟩, HK1.out⟩
  ·obtain rfl : j = n := by omega
   have h9 := HA.out
   rw [List.take_of_length_le (by rw [HV.out.1]; exact Nat.le_refl _)] at h9
   have H9 := Lib.hid h9
   clear h9
   go_wp2_with fail
   go_ret
   exact ⟨.inl ⟨H9.out, rfl⟩, HKR.out⟩
theorem containsfv_is (g : Nat) (p : Txt → Bool) (A : Option Addr) (n c : Nat) (l : List Txt) (w : World) (hG : ∀ s ∈ l, ∀ X, Keeps [] w X → Calls Tryz.prog 257 #[tv s, .pointer (some ⟨g, 0, none⟩)] X fun e w' => e = .returned (.bool (p s)) ∧ Keeps [] X w') (h : StrsIn w A n l) (hn : n ≤ 1000000) :
  Calls Tryz.prog 213 #[.slice A n c, .func (.func 257) #[] #[.pointer (some ⟨g, 0, none⟩)]] w fun e w' => e = .returned (.bool (l.any p)) ∧ Keeps [] w w' := by
 have HI := Lib.hid (indexfv_is g p A n c l w hG h hn)
 clear h hG
 obtain ⟨q, hq⟩ : ∃ q, l.any p = q := ⟨_, rfl⟩
 rw [hq] at HI ⊢
 clear hq
 go_enter Tryz.func213, Tryz.ntmps213
 go_wp2_with fail
 refine HI.out.mono ?_
 rintro e w1 ⟨⟨rfl, rfl⟩ | ⟨rfl, i, rfl⟩, hk1⟩
 ·have HK1 := Lib.hid hk1
  clear hk1
  go_wp2_with fail
  go_ret
  exact ⟨by first | rfl | simp, HK1.out⟩
 ·have HK1 := Lib.hid hk1
  have hi : (0 : Int) ≤ (i : Int) := by omega
  clear hk1
  go_wp2_with fail
  go_ret
  exact ⟨by first | rfl | simp, HK1.out⟩
theorem indexfb_is (g : Nat) (p : Txt → Bool) (A : Option Addr) (n c : Nat) (l : List Txt) (w : World) (hG : ∀ s ∈ l, ∀ X, Keeps [] w X → Calls Tryz.prog 258 #[tv s, .pointer (some ⟨g, 0, none⟩)] X fun e w' => e = .returned (.bool (p s)) ∧ Keeps [] X w') (h : StrsIn w A n l) (hn : n ≤ 1000000) :
  Calls Tryz.prog 267 #[.slice A n c, .func (.func 258) #[] #[.pointer (some ⟨g, 0, none⟩)]] w fun e w' =>
   (l.any p = false ∧ e = .returned (.int .i64 (-1)) ∨ l.any p = true ∧ ∃ i : Nat, e = .returned (.int .i64 (i : Int))) ∧ Keeps [] w w' := by
 have HV : Hid (StrsIn w A n l) := h
 have HG := Lib.hid hG
 clear h hG
 go_enter Tryz.func267, Tryz.ntmps267
 go_wp2_with fail
 go_loopw [8] (fun i wr => ∃ j : Nat, i = .int .i64 (j : Int) ∧ j ≤ n ∧ Hid ((l.take j).any p = false) ∧ Hid (Keeps [] w wr)) (fun i _ => n - (intOf i).toNat)
 case atStart => exact ⟨0, rfl, Nat.zero_le _, by simp [Hid], Keeps.refl _ _⟩
 case round =>
  obtain ⟨j, rfl, hj, HA, HKR⟩ := hrel
  by_cases hlt : j < n
  ·obtain ⟨hl, hp, hc9⟩ := StrsIn.grow HKR.out HV.out
   obtain ⟨b, o, hA9, hcc⟩ := hc9 (by omega)
   subst hA9
   obtain ⟨s, hu⟩ : ∃ s, l[j]? = some s := ⟨_, List.getElem?_eq_getElem (by omega)⟩
   have c0 := hcc j s hu
   have HU := Lib.hid hu
   have HGS := Lib.hid (HG.out s (List.mem_of_getElem? hu) wr HKR.out)
   obtain ⟨r, hr⟩ : ∃ r, p s = r := ⟨_, rfl⟩
   rw [hr] at HGS
   have HR := Lib.hid hr
   unfold tv at c0 HGS
   have hji : (j : Int) < (n : Int) := by omega
   have hj0 : 0 ≤ (j : Int) := by omega
   clear hcc hu hp hl hc9 hr
   go_wp2_with fail
   refine HGS.out.mono ?_
   rintro e w1 ⟨rfl, hk1⟩
   have HK1 := Lib.hid (HKR.out.trans' hk1)
   clear hk1
   cases r
   ·have HN2 : Hid ((l.take (j + 1)).any p = false) := by
     show _ = _
     rw [List.take_add_one, HU.out, List.any_append, HA.out]
     simp [HR.out]
    go_wp2_with fail
    go_roundw
    case rel => exact ⟨j + 1, by go_num, by omega, HN2.out, HK1.out⟩
    case measure => simp [intOf]; omega
   ·go_wp2_with fail
    go_ret
    exact ⟨.inr ⟨List.any_eq_true.2 ⟨s, List.mem_of_getElem? HU.out, HR.out⟩, j, rfl⟩, HK1.out⟩
  ·obtain rfl : j = n := by omega
   have h9 := HA.out
   rw [List.take_of_length_le (by rw [HV.out.1]; exact Nat.le_refl _)] at h9
   have H9 := Lib.hid h9
   clear h9
   go_wp2_with fail
   go_ret
   exact ⟨.inl ⟨H9.out, rfl⟩, HKR.out⟩
theorem containsfb_is (g : Nat) (p : Txt → Bool) (A : Option Addr) (n c : Nat) (l : List Txt) (w : World) (hG : ∀ s ∈ l, ∀ X, Keeps [] w X → Calls Tryz.prog 258 #[tv s, .pointer (some ⟨g, 0, none⟩)] X fun e w' => e = .returned (.bool (p s)) ∧ Keeps [] X w') (h : StrsIn w A n l) (hn : n ≤ 1000000) :
  Calls Tryz.prog 213 #[.slice A n c, .func (.func 258) #[] #[.pointer (some ⟨g, 0, none⟩)]] w fun e w' => e = .returned (.bool (l.any p)) ∧ Keeps [] w w' := by
 have HI := Lib.hid (indexfb_is g p A n c l w hG h hn)
 clear h hG
 obtain ⟨q, hq⟩ : ∃ q, l.any p = q := ⟨_, rfl⟩
 rw [hq] at HI ⊢
 clear hq
 go_enter Tryz.func213, Tryz.ntmps213
 go_wp2_with fail
 refine HI.out.mono ?_
 rintro e w1 ⟨⟨rfl, rfl⟩ | ⟨rfl, i, rfl⟩, hk1⟩
 ·have HK1 := Lib.hid hk1
  clear hk1
  go_wp2_with fail
  go_ret
  exact ⟨by first | rfl | simp, HK1.out⟩
 ·have HK1 := Lib.hid hk1
  have hi : (0 : Int) ≤ (i : Int) := by omega
  clear hk1
  go_wp2_with fail
  go_ret
  exact ⟨by first | rfl | simp, HK1.out⟩
end Go.Proofs.YtbfebljahjmjfaaGreatDoor
/- filter: the subject's Values of a Name; walked. -/
namespace Go.Proofs.YtbfebljahjmjfaaGreatDoor
open Go.RowKit Go.Shelf
set_option linter.unusedVariables false
set_option linter.unusedSimpArgs false
set_option maxRecDepth 100000

/-- A subject: an entry, and attributes that stand in the place of its own. -/
structure SubV where
 A : Option Addr
 n : Nat
 c : Nat
 B : Option Addr
 m : Nat
 d : Nat
def SubV.val (S : SubV) : Value := .agg #[.slice S.A S.n S.c, .slice S.B S.m S.d]
structure SubOk (w : World) (S : SubV) (lo lb : List At7) : Prop where
 own : EntIn w S.A S.n lo
 few : Few7 100000 lo
 beside : EntIn w S.B S.m lb
 few2 : Few7 100000 lb
theorem SubOk.grow {w w' : World} {S : SubV} {lo lb : List At7} (h : SubOk w S lo lb) (hk : Keeps [] w w') : SubOk w' S lo lb := ⟨h.own.grow hk, h.few, h.beside.grow hk, h.few2⟩
/-- The Values of a Name. -/
def valsS (own beside : List Att) (v : Txt) : List Txt := match beside.find? (fun a => a.1 == v) with
 | some a => a.2
 | none => cont2 own (smallL v)
theorem cont2_fits {w : World} {A : Option Addr} {n : Nat} {l : List At7} (h : EntIn w A n l) (k : Txt) : ∀ s ∈ cont2 (ents l) k, s.length ≤ 9223372036854775807 := by
 intro s hs
 unfold cont2 at hs
 cases hq : (ents l).find? (fun a => a.1 == k) with
 | none => rw [hq] at hs; cases hs
 | some a =>
  rw [hq] at hs
  have hm := List.mem_of_find?_eq_some hq
  unfold ents at hm
  obtain ⟨x, hx, rfl⟩ := List.mem_map.1 hm
  exact (h.2.1 x hx).2.2.2.2.1 s hs
theorem cont2_few {w : World} {A : Option Addr} {n m : Nat} {l : List At7} (h : EntIn w A n l) (hf : Few7 m l) (k : Txt) : (cont2 (ents l) k).length ≤ m := by
 unfold cont2
 cases hq : (ents l).find? (fun a => a.1 == k) with
 | none => simp
 | some a =>
  have hm := List.mem_of_find?_eq_some hq
  unfold ents at hm
  obtain ⟨x, hx, rfl⟩ := List.mem_map.1 hm
  have h1 := hf.2 x hx
  have h2 : x.vs.length = x.n := (h.2.1 x hx).2.2.2.1
  show x.vs.length ≤ m
  omega
set_option maxHeartbeats 4000000 in
theorem values8_is (S : SubV) (lo lb : List At7) (v : Txt) (w : World) (h : SubOk w S lo lb) (hv : v.length ≤ 9223372036854775807) :
  Calls Tryz.prog 256 #[S.val, tv v] w (StrQ (valsS (ents lo) (ents lb) v) w) := by
 have HG := Lib.hid (fun X (hX : Keeps [] w X) => get_is S.A S.n S.c lo v X (EntIn.grow hX h.own) h.few hv)
 have HGT := Lib.hid (cont2_fits h.own (smallL v))
 have HD := Lib.hid h.beside
 have hm9 : S.m ≤ 100000 := by rw [← h.beside.1]; exact h.few2.1
 have HF := Lib.hid h.few2
 have HEL : Hid ((ents lb).length = S.m) := by show _ = _; rw [ents_len, h.beside.1]
 obtain ⟨A, n, c, B, m, d⟩ := S
 unfold SubV.val tv at *
 dsimp only at HG HD hm9 HEL ⊢
 have HB0 := Lib.hid (heap_new8 w (.cells #[.slice A n c, .slice B m d] 110))
 have HK0 : Hid (Keeps [] w (w.alloc (.cells #[.slice A n c, .slice B m d] 110))) := (Keeps.refl [] w).alloc _
 clear h hv
 go_enter Tryz.func256, Tryz.ntmps256
 go_wp2_with fail
 go_loopw [10] (fun i wr => ∃ j : Nat, i = .int .i64 (j : Int) ∧ j ≤ m ∧ Hid (((ents lb).take j).find? (fun a => a.1 == v) = none) ∧ Hid (Keeps [] w wr) ∧ Hid (wr.heap[w.heap.size]? = some (.cells #[.slice A n c, .slice B m d] 110 (0, 0)))) (fun i _ => m - (intOf i).toNat)
 case atStart => exact ⟨0, rfl, Nat.zero_le _, by simp [Hid], HK0.out, HB0.out⟩
 case round =>
  obtain ⟨j, rfl, hj, HA, HKR, HBX⟩ := hrel
  obtain ⟨⟨z0, z1⟩, _⟩ := blk2 HBX.out
  by_cases hlt : j < m
  ·obtain ⟨hl, hp, hc9⟩ := EntIn.grow HKR.out HD.out
   obtain ⟨b, o, hA9, hcc⟩ := hc9 (by omega)
   clear hc9
   subst hA9
   obtain ⟨a, hu⟩ : ∃ a, lb[j]? = some a := ⟨_, List.getElem?_eq_getElem (by omega)⟩
   obtain ⟨c0, c1⟩ := hcc j a hu
   have hfit := hp a (List.mem_of_getElem? hu)
   have hfn := HF.out.2 a (List.mem_of_getElem? hu)
   have HUE := Lib.hid (ents_at hu)
   obtain ⟨nm, aA, an, ac, avs⟩ := a
   obtain ⟨hnm, hnc, hac, hV⟩ := hfit
   dsimp only at c0 c1 hnm hV hfn hnc hac
   unfold tv at c0
   have hji : (j : Int) < (m : Int) := by omega
   have hj0 : (0 : Int) ≤ (j : Int) := by omega
   have HK4 : Hid (Keeps [] wr (wr.alloc (.cells #[.string ⟨nm.toArray⟩, .slice aA an ac] 70))) := (Keeps.refl [] wr).alloc _
   obtain ⟨⟨d0, d1⟩, _⟩ := blk2 (heap_new8 wr (.cells #[.string ⟨nm.toArray⟩, .slice aA an ac] 70))
   have HB4 := Lib.hid (blk_keep HBX.out HK4.out (by simp))
   obtain ⟨w4, hw4⟩ : ∃ w4, wr.alloc (.cells #[.string ⟨nm.toArray⟩, .slice aA an ac] 70) = w4 := ⟨_, rfl⟩
   rw [hw4] at HK4 d0 d1 HB4
   have HVI := Lib.hid (StrsIn.grow HK4.out hV)
   have HCP : Hid (an ≤ ac ∧ ac ≤ 9223372036854775807) := ⟨hnc, hac⟩
   obtain ⟨r, hr⟩ : ∃ r, (nm == v) = r := ⟨_, rfl⟩
   obtain ⟨hs1, hs2, hs3⟩ := tx_beq nm v r hr
   clear hcc hu hp hl hV hnm hnc hac hfn
   cases r
   ·have HN2 := Lib.hid (find_none7 HUE.out (show nm ≠ v by simpa using hr) HA.out)
    go_wp2_with fail
    go_roundw
    case rel => exact ⟨j + 1, by go_num, by omega, HN2.out, HKR.out.trans' HK4.out, HB4.out⟩
    case measure => simp [intOf]; omega
   ·have heq : nm = v := by simpa using hr
    have HF2 := Lib.hid (find_some7 HUE.out heq HA.out)
    subst heq
    clear hr hs1 hs2 hs3
    have hnn : (nm == nm) = true := by simp
    go_wp2_with fail
    go_ret
    have he : valsS (ents lo) (ents lb) nm = avs := by unfold valsS; rw [HF2.out]; rfl
    rw [he]
    exact StrQ.of HVI.out HCP.out.1 HCP.out.2 (HKR.out.trans' HK4.out)
  ·obtain rfl : j = m := by omega
   have h9 := HA.out
   rw [List.take_of_length_le (by rw [HEL.out]; exact Nat.le_refl _)] at h9
   have H9 := Lib.hid h9
   clear h9
   go_wp2_with fail
   refine (HG.out _ HKR.out).mono ?_
   rintro e w5 ⟨A5, c5, rfl, ho5, hk5⟩
   have HO5 := Lib.hid ho5
   have HK5 := Lib.hid (HKR.out.trans' hk5)
   clear ho5 hk5
   go_wp2_with fail
   go_ret
   have he : valsS (ents lo) (ents lb) v = cont2 (ents lo) (smallL v) := by unfold valsS; rw [H9.out]
   rw [he]
   exact StrQ.of (StrsIn.of_own HO5.out rfl HGT.out) (own_caps HO5.out).1 (own_caps HO5.out).2 HK5.out
end Go.Proofs.YtbfebljahjmjfaaGreatDoor
