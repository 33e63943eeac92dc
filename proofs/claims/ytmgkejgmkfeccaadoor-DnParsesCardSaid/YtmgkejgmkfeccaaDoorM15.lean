/- Texts of one proof, laid together: N27 N28. -/
import Derived.Test.YtmgkejgmkfeccaaDoorM14
import Derived.Test.YtmgkejgmkfeccaaDoorM07
/- dn: the Value whose text it is; walked. -/
namespace Go.Proofs.YtmgkejgmkfeccaaDoor
open Go.RowKit Go.Shelf
set_option linter.unusedVariables false
set_option linter.unusedSimpArgs false
set_option maxRecDepth 100000

theorem behindL_lt {r r' : List UInt8} {x : UInt8} (h : behindL r = some (x, r')) : r'.length < r.length := by
  cases r with
  | nil => cases h
  | cons c r =>
    by_cases h0 : mark6 c.toNat = 0
    · cases r with
      | nil => simp [behindL, h0] at h
      | cons d r2 =>
        simp [behindL, h0] at h
        obtain ⟨N, _, _, rfl⟩ := h
        simp
        omega
    · simp [behindL, h0] at h
      obtain ⟨_, rfl⟩ := h
      simp

/-- The Value of what is left of a text of n bytes. -/
def valL (n : Nat) (rest : List UInt8) : Option (List UInt8) :=
  match rest with
  | [] => some []
  | c :: r =>
    if c = 92 then
      match h : behindL r with
      | none => none
      | some (x, r') => (valL n r').map (x :: ·)
    else if (plain1 c && !ask6 (mark6 c.toNat) (plc6 (n - (r.length + 1)) n)) = true then (valL n r).map (c :: ·) else none
termination_by rest.length
decreasing_by
  · have := behindL_lt h; simp; omega
  · simp

theorem valL_bs_none {n : Nat} {r : List UInt8} (h : behindL r = none) : valL n (92 :: r) = none := by
  rw [valL]
  simp only [if_true]
  split
  · rfl
  · rename_i h2; rw [h] at h2; cases h2
theorem valL_bs_some {n : Nat} {r r' : List UInt8} {x : UInt8} (h : behindL r = some (x, r')) : valL n (92 :: r) = (valL n r').map (x :: ·) := by
  rw [valL]
  simp only [if_true]
  split
  · rename_i h2; rw [h] at h2; cases h2
  · rename_i h2; rw [h] at h2; injection h2 with h2; injection h2 with h3 h4; subst h3 h4; rfl
theorem valL_yes {n : Nat} {r : List UInt8} {c : UInt8} (h : c ≠ 92) (h2 : (plain1 c && !ask6 (mark6 c.toNat) (plc6 (n - (r.length + 1)) n)) = true) : valL n (c :: r) = (valL n r).map (c :: ·) := by
  rw [valL, if_neg h, if_pos h2]
theorem valL_no {n : Nat} {r : List UInt8} {c : UInt8} (h : c ≠ 92) (h2 : (plain1 c && !ask6 (mark6 c.toNat) (plc6 (n - (r.length + 1)) n)) = false) : valL n (c :: r) = none := by
  rw [valL, if_neg h, if_neg (by rw [h2]; decide)]

/-- How far the text is read. -/
def ValI (T acc : List UInt8) (k : Nat) : Prop := k ≤ T.length ∧ acc.length ≤ k ∧ valL T.length T = (valL T.length (T.drop k)).map (acc ++ ·)
theorem ValI.start (T : List UInt8) : ValI T [] 0 := by
  refine ⟨by omega, by simp, ?_⟩
  cases h : valL T.length T <;> simp [h]
theorem ValI.bs_none {T acc : List UInt8} {k : Nat} (h : ValI T acc k) (hu : T[k]? = some 92) (hb : behindL (T.drop (k + 1)) = none) : valL T.length T = none := by
  rw [h.2.2, drop_at hu, valL_bs_none hb]
  rfl
theorem ValI.bs_some {T acc : List UInt8} {k q : Nat} {x : UInt8} (h : ValI T acc k) (hu : T[k]? = some 92) (hb : behindL (T.drop (k + 1)) = some (x, T.drop q)) (hq : q ≤ T.length) (hkq : k + 1 < q) : ValI T (acc ++ [x]) q := by
  refine ⟨hq, by have := h.2.1; simp; omega, ?_⟩
  rw [h.2.2, drop_at hu, valL_bs_some hb]
  cases valL T.length (T.drop q) <;> simp
theorem ValI.plc {T acc : List UInt8} {k : Nat} {u : UInt8} (hu : T[k]? = some u) : T.length - ((T.drop (k + 1)).length + 1) = k := by
  have := (List.getElem?_eq_some_iff.1 hu).1
  rw [List.length_drop]
  omega
theorem ValI.no {T acc : List UInt8} {k : Nat} {u : UInt8} (h : ValI T acc k) (hu : T[k]? = some u) (h1 : u ≠ 92) (h2 : (plain1 u && !ask6 (mark6 u.toNat) (plc6 k T.length)) = false) : valL T.length T = none := by
  rw [h.2.2, drop_at hu, valL_no h1 (by rw [ValI.plc (acc := acc) hu]; exact h2)]
  rfl
theorem ValI.yes {T acc : List UInt8} {k : Nat} {u : UInt8} (h : ValI T acc k) (hu : T[k]? = some u) (h1 : u ≠ 92) (h2 : (plain1 u && !ask6 (mark6 u.toNat) (plc6 k T.length)) = true) : ValI T (acc ++ [u]) (k + 1) := by
  have hk := (List.getElem?_eq_some_iff.1 hu).1
  refine ⟨by omega, by have := h.2.1; simp; omega, ?_⟩
  rw [h.2.2, drop_at hu, valL_yes h1 (by rw [ValI.plc (acc := acc) hu]; exact h2)]
  cases valL T.length (T.drop (k + 1)) <;> simp
theorem ValI.fin {T acc : List UInt8} {k : Nat} (h : ValI T acc k) (hk : T.length ≤ k) : valL T.length T = some acc := by
  rw [h.2.2, List.drop_of_length_le hk]
  simp [valL]

/-- What valueOf answers. -/
def ValQ (T : List UInt8) (w : World) (e : Ending) (w' : World) : Prop :=
  (∀ v, valL T.length T = some v → e = .returned (.string ⟨v.toArray⟩)) ∧ (valL T.length T = none → e = gaveUp 160) ∧ Keeps [] w w'

end Go.Proofs.YtmgkejgmkfeccaaDoor
/- dn: the Value whose text it is; walked. -/
namespace Go.Proofs.YtmgkejgmkfeccaaDoor
open Go.RowKit Go.Shelf
set_option linter.unusedVariables false
set_option linter.unusedSimpArgs false
set_option maxRecDepth 100000

theorem keeps_own6 {w a b : World} {bs : List Nat} {e : TypeId} {k n : Nat} {v : Value} {xs : List Value} (h : a.ownsRow w.heap.size e k v n xs) (hk : Keeps bs w a) (hg : a.grownBy b v.ownBlock) : Keeps bs w b :=
  hk.trans (Keeps.of_grown (bs := v.ownBlock.toList) hg (fun x hx => .inl (by rw [hx]; simp))) (fun x hx => .inr (by
    cases hv : v.ownBlock with
    | none => rw [hv] at hx; simp at hx
    | some y => rw [hv] at hx; simp at hx; subst hx; exact (h.lt x hv).1))

/-- What a round of valueOf's loop finds. -/
structure ValS (T : List UInt8) (p : Nat) (W1 wr : World) (A : Option Addr) (an cc k : Nat) (acc : List UInt8) : Prop where
  inv : ValI T acc k
  len : acc.length = an
  box : Box1 wr p 3 (.int .i64 (k : Int))
  row : wr.ownsRow W1.heap.size 5 1 (.slice A an cc) an (acc.map bv)
  keep : Keeps [p] W1 wr

theorem ValS.more {T acc : List UInt8} {p an cc k q : Nat} {x : UInt8} {W1 wr w2 w3 : World} {A : Option Addr} {v : Value} (h : ValS T p W1 wr A an cc k acc) (hp : p < W1.heap.size) (hi : ValI T (acc ++ [x]) q) (hb : Box1 w2 p 3 (.int .i64 (q : Int))) (hk : Keeps [p] wr w2)
    (ho : w3.ownsRow W1.heap.size 5 1 v (an + 1) (acc.map bv ++ [bv x])) (hg : (w2.alloc (.cells #[bv x] 5)).grownBy w3 (Value.slice A an cc).ownBlock) : ∃ VB vd, v = .slice VB (an + 1) vd ∧ ValS T p W1 w3 VB (an + 1) vd q (acc ++ [x]) := by
  obtain ⟨VB, vd, hv⟩ := own_slice ho
  subst hv
  have hnp : ∀ b, (Value.slice A an cc).ownBlock = some b → b ∉ [p] := fun b hb hm => by
    have := (h.row.lt b hb).1
    simp at hm
    omega
  have hrow2 : (w2.alloc (.cells #[bv x] 5)).ownsRow W1.heap.size 5 1 (.slice A an cc) an (acc.map bv) := own_keep h.row (hk.alloc _) hnp
  have hk2 : Keeps [p] W1 (w2.alloc (.cells #[bv x] 5)) := h.keep.trans (hk.alloc _) (fun x hx => .inl hx)
  refine ⟨VB, vd, rfl, hi, by simp [h.len], ?_, by simpa using ho, keeps_own6 hrow2 hk2 hg⟩
  have hgk := Keeps.of_grown (bs := (Value.slice A an cc).ownBlock.toList) hg (fun x hx => .inl (by rw [hx]; simp))
  have hb2 : Box1 (w2.alloc (.cells #[bv x] 5)) p 3 (.int .i64 (q : Int)) := hb.keep (bs := []) ((Keeps.refl [] _).alloc _) (by simp)
  refine hb2.keep hgk (fun hm => ?_)
  have h9 : (Value.slice A an cc).ownBlock = some p := by simpa using hm
  exact hnp p h9 (by simp)

set_option maxHeartbeats 8000000 in
theorem valueof6_is (T : List UInt8) (b : Nat) (w : World) (hl : T.length ≤ 1000000000) (hm : MarksAt w b) (hs : SynAt w) :
    Calls Tryd.prog 40 #[.map (some b), .string ⟨T.toArray⟩] w fun e w' => ValQ T w e w' := by
  obtain ⟨iu, hiu, hzu0, hzu1, hzu2⟩ := info_parts u8_info
  have hbl := World.ownsMap.lt hm
  have hsl := hs.lt
  have h2n := two_news (w := w) (t1 := 9) (t2 := 3) (v1 := .string ⟨T.toArray⟩) (v2 := .int .i64 ((0 : Nat) : Int))
  have hK : Keeps [] w ((w.alloc (.cells #[.string ⟨T.toArray⟩] 9)).alloc (.cells #[.int .i64 ((0 : Nat) : Int)] 3)) := ((Keeps.refl [] w).alloc _).alloc _
  have hsz : ((w.alloc (.cells #[.string ⟨T.toArray⟩] 9)).alloc (.cells #[.int .i64 ((0 : Nat) : Int)] 3)).heap.size = w.heap.size + 2 := by simp only [World.alloc, Array.size_push]
  obtain ⟨W1, hW1⟩ : ∃ W1, (w.alloc (.cells #[.string ⟨T.toArray⟩] 9)).alloc (.cells #[.int .i64 ((0 : Nat) : Int)] 3) = W1 := ⟨_, rfl⟩
  rw [hW1] at h2n hK hsz
  obtain ⟨g, hg⟩ : ∃ g, w.heap.size = g := ⟨_, rfl⟩
  obtain ⟨p, hp⟩ : ∃ p, w.heap.size + 1 = p := ⟨_, rfl⟩
  have HG := Lib.hid hg
  have HP := Lib.hid hp
  have HSZ := Lib.hid hsz
  have HK := Lib.hid hK
  have HT : Hid (∀ X, Keeps [p] W1 X → Box1 X g 9 (.string ⟨T.toArray⟩)) := fun X hk => by
    have h9 := h2n.1
    rw [hg] at h9
    exact h9.keep hk (by simp; omega)
  have HM : Hid (∀ X, Keeps [p] W1 X → MarksAt X b) := fun X hk => (hm.keep hK (by simp)).keep hk (by simp; omega)
  have HS : Hid (∀ X, Keeps [p] W1 X → SynAt X) := fun X hk => (hs.keep hK (by simp)).keep hk (by simp; omega)
  have HB : Hid (Box1 W1 p 3 (.int .i64 ((0 : Nat) : Int))) := by have h9 := h2n.2; rw [hp] at h9; exact h9
  have HPL : Hid (p < W1.heap.size) := by show _ < _; omega
  have HNE : Hid (g ≠ p ∧ b ≠ p ∧ 2 ≠ p) := ⟨by omega, by omega, by omega⟩
  obtain ⟨n, hn⟩ : ∃ n, T.length = n := ⟨_, rfl⟩
  have HN := Lib.hid hn
  have hTL : (⟨T.toArray⟩ : ByteArray).size = n := hn
  rw [hn] at hl
  have HW1 := Lib.hid hW1
  clear hm hs hbl hsl h2n hK hsz hW1 hn
  go_enter Tryd.func40, Tryd.ntmps40
  go_wp2_with fail
  rw [show ((0 : Nat) : Int) = (0 : Int) from rfl] at HW1
  rw [HW1.out]
  rw [hg] at hp
  simp only [hp]
  clear hg hp
  go_loopw [7] (fun o wr => ∃ (A : Option Addr) (an cc k : Nat) (acc : List UInt8), o = .slice A an cc ∧ Hid (ValS T p W1 wr A an cc k acc)) (fun _ wr => n - placeOf wr p)
  case atStart => exact ⟨none, 0, 0, 0, [], rfl, ValI.start T, rfl, HB.out, World.ownsRow_nil _ _ _ _, Keeps.refl _ _⟩
  case round =>
    obtain ⟨A, an, cc, k, acc, rfl, HV⟩ := hrel
    have hkn : k ≤ n := by have := HV.out.inv.1; have := HN.out; omega
    have hak : an ≤ k := by have := HV.out.inv.2.1; have := HV.out.len; omega
    have c0 := HV.out.box.cell
    have c1 := (HT.out wr HV.out.keep).cell
    have HPK := Lib.hid (placeOf_is c0)
    by_cases hlt : k < n
    · obtain ⟨u, hu⟩ : ∃ u, T[k]? = some u := ⟨_, List.getElem?_eq_getElem (by rw [HN.out]; exact hlt)⟩
      have hul : u.toNat < 256 := u.toNat_lt
      have hlti : (k : Int) < (n : Int) := by omega
      have HPLC := Lib.hid (places_is k n wr hlt (by omega))
      have HNX := Lib.hid (next_byte T p g k wr (by rw [HN.out]; omega) HV.out.box (HT.out wr HV.out.keep) HNE.out.1 u hu)
      have HNP : Hid (∀ b, (Value.slice A an cc).ownBlock = some b → b ∉ [p]) := fun b hb hm => by
        have h8 := (HV.out.row.lt b hb).1
        have h9 := HPL.out
        simp at hm
        omega
      go_wp2_with fail
      refine HPLC.out.mono ?_
      rintro e w0 ⟨rfl, rfl⟩
      go_wp2_with fail
      refine HNX.out.mono ?_
      rintro e w1 ⟨rfl, hb1, hk1⟩
      have HB1 := Lib.hid hb1
      have HK1 := Lib.hid hk1
      have HKW1 : Hid (Keeps [p] W1 w1) := HV.out.keep.trans hk1 (fun x hx => .inl hx)
      clear hb1 hk1 c0 c1
      by_cases h92 : u = 92
      · subst h92
        have HUN := Lib.hid hu
        have HBH := Lib.hid (behind_is T b p g (k + 1) w1 (by rw [HN.out]; omega) HB1.out (HT.out w1 HKW1.out) HNE.out.1 (HM.out w1 HKW1.out) HNE.out.2.1 (HS.out w1 HKW1.out) HNE.out.2.2)
        rw [show (((92 : UInt8).toNat : Nat) : Int) = 92 from rfl]
        clear hu hul
        go_wp2_with fail
        refine HBH.out.mono ?_
        rintro e w2 ⟨hq1, hq2, hk2⟩
        have HKR2 : Hid (Keeps [p] wr w2) := HK1.out.trans hk2 (fun x hx => .inl hx)
        have HKW2 : Hid (Keeps [p] W1 w2) := HKW1.out.trans hk2 (fun x hx => .inl hx)
        cases hbl : behindL (T.drop (k + 1)) with
        | none =>
          obtain rfl := hq2 hbl
          have HR : Hid (ValQ T w (gaveUp 160) w2) := ⟨fun v h => (by rw [HV.out.inv.bs_none HUN.out hbl] at h; cases h), fun _ => rfl, HK.out.trans HKW2.out (fun x hx => .inr (by simp at hx; subst hx; have := HP.out; omega))⟩
          clear hq1 hq2 hbl hk2
          go_wp2_with fail
          exact ⟨rfl, HR.out⟩
        | some xr =>
          obtain ⟨x, r⟩ := xr
          obtain ⟨rfl, q, hq, hkq, hdr, hbq⟩ := hq1 x r hbl
          have HVI : Hid (ValI T (acc ++ [x]) q) := HV.out.inv.bs_some HUN.out (by rw [hbl, hdr]) hq hkq
          have HBQ := Lib.hid hbq
          clear hq1 hq2 hbl hk2 hdr hbq
          go_wp2_with (at_builtin; refine wpList_append_opt rfl (.tmp 36) (.tmp 38) 83 rfl W1.heap.size 5 iu _ 1 1 Tryd.underlying83 hiu hzu0 hzu1 hzu2 rfl (by decide) (.slice A an cc) an (acc.map bv) rfl (own_keep HV.out.row (HKR2.out.alloc _) HNP.out) (some ⟨w2.heap.size, 0, none⟩) 1 1 ([x].map bv) rfl rfl (src_lit6 w2 _ [x] rfl) bvs_one (by unfold maxLen; omega) (by omega) (by have := HKW2.out.size; simp; omega) ?_; intro v3 w3 ho hg3 hs3; obtain ⟨VB, vd, hv3, hnew⟩ := HV.out.more HPL.out HVI.out HBQ.out HKR2.out ho hg3; subst hv3; have HNEW := Lib.hid hnew; clear hnew ho hg3 hs3)
          go_roundw
          case rel => exact ⟨VB, an + 1, vd, q, acc ++ [x], rfl, HNEW.out⟩
          case measure =>
            have e1 := HPK.out
            have e2 := placeOf_is HNEW.out.box.cell
            rw [e1, e2]
            omega
      · have h92i : ¬ (u.toNat : Int) = 92 := fun h => h92 (UInt8.toNat_inj.1 (by show u.toNat = 92; omega))
        have h92b : ((u.toNat : Int) == 92) = false := by simpa using h92i
        have HPN := Lib.hid (isplain_is u w1)
        have HAS := Lib.hid (ask_is b u (plc6 k n) w1 (HM.out w1 HKW1.out) (plc_in k n))
        have hno := fun h => HV.out.inv.no hu h92 h
        have hyes := fun h => HV.out.inv.yes hu h92 h
        rw [HN.out] at hno hyes
        have HNO := Lib.hid hno
        have HYES := Lib.hid hyes
        obtain ⟨pl, hpl⟩ : ∃ pl, plain1 u = pl := ⟨_, rfl⟩
        obtain ⟨q, hq⟩ : ∃ q, ask6 (mark6 u.toNat) (plc6 k n) = q := ⟨_, rfl⟩
        rw [hpl] at HPN HNO HYES
        rw [hq] at HAS HNO HYES
        have HBAD : Hid (∀ w2, Keeps [p] W1 w2 → valL n T = none → ValQ T w (gaveUp 160) w2) := fun w2 hk h9 => ⟨fun v h => (by rw [HN.out, h9] at h; cases h), fun _ => rfl, HK.out.trans hk (fun x hx => .inr (by simp at hx; subst hx; have := HP.out; omega))⟩
        clear hu hno hyes hpl hq h92
        go_wp2_with fail
        refine HPN.out.mono ?_
        rintro e w2 ⟨rfl, rfl⟩
        cases pl
        · have HR := Lib.hid (HBAD.out w1 HKW1.out (HNO.out (by first | exact trivial | rfl)))
          go_wp2_with fail
          refine (must_is false _).mono ?_
          rintro e w5 ⟨h, rfl⟩
          rcases h with ⟨h, _⟩ | ⟨_, rfl⟩
          · cases h
          · go_wp2_with fail
            exact ⟨rfl, HR.out⟩
        · go_wp2_with fail
          refine HAS.out.mono ?_
          rintro e w2 ⟨rfl, rfl⟩
          cases q
          · have HVI : Hid (ValI T (acc ++ [u]) (k + 1)) := HYES.out (by first | exact trivial | rfl)
            go_wp2_with fail
            refine (must_is true _).mono ?_
            rintro e w2 ⟨h, rfl⟩
            rcases h with ⟨_, rfl⟩ | ⟨h, _⟩
            · have HKR2 := HK1
              have HKW2 := HKW1
              have HBQ := HB1
              go_wp2_with (at_builtin; refine wpList_append_opt rfl (.tmp 36) (.tmp 38) 83 rfl W1.heap.size 5 iu _ 1 1 Tryd.underlying83 hiu hzu0 hzu1 hzu2 rfl (by decide) (.slice A an cc) an (acc.map bv) rfl (own_keep HV.out.row (HKR2.out.alloc _) HNP.out) (some ⟨w1.heap.size, 0, none⟩) 1 1 ([u].map bv) rfl rfl (src_lit6 w1 _ [u] rfl) bvs_one (by unfold maxLen; omega) (by omega) (by have := HKW2.out.size; simp; omega) ?_; intro v3 w3 ho hg3 hs3; obtain ⟨VB, vd, hv3, hnew⟩ := HV.out.more HPL.out HVI.out HBQ.out HKR2.out ho hg3; subst hv3; have HNEW := Lib.hid hnew; clear hnew ho hg3 hs3)
              go_roundw
              case rel => exact ⟨VB, an + 1, vd, k + 1, acc ++ [u], rfl, HNEW.out⟩
              case measure =>
                have e1 := HPK.out
                have e2 := placeOf_is HNEW.out.box.cell
                rw [e1, e2]
                omega
            · cases h
          · have HR := Lib.hid (HBAD.out w1 HKW1.out (HNO.out (by first | exact trivial | rfl)))
            go_wp2_with fail
            refine (must_is false _).mono ?_
            rintro e w5 ⟨h, rfl⟩
            rcases h with ⟨h, _⟩ | ⟨_, rfl⟩
            · cases h
            · go_wp2_with fail
              exact ⟨rfl, HR.out⟩
    · have hge : ¬ (k : Int) < (n : Int) := by omega
      have hfin := HV.out.inv.fin (by rw [HN.out]; omega)
      have hcb := conv_bytes (BytesAt.of_own (by have h9 := HV.out.row; rw [← HV.out.len] at h9; exact h9))
      rw [HV.out.len] at hcb
      have HKK : Hid (Keeps [] w wr) := HK.out.trans HV.out.keep (fun x hx => .inr (by simp at hx; subst hx; have := HP.out; omega))
      clear HPK
      go_wp2_with fail
      go_ret
      refine ⟨fun v h => ?_, fun h => ?_, HKK.out⟩
      · rw [hfin] at h
        injection h with h
        subst h
        rfl
      · rw [hfin] at h
        cases h

end Go.Proofs.YtmgkejgmkfeccaaDoor
