/- Texts of one proof, laid together: F35 F36 F37 F66 F69 F70 F71. -/
import Derived.Test.YtbfebljahjmjfaaGreatDoorMF1
import Derived.BigQuiet
import Derived.Test.YtbfebljahjmjfaaGreatDoorME6
/- filter: the Value that stands in a text; walked. -/
namespace Go.Proofs.YtbfebljahjmjfaaGreatDoor
open Go.RowKit Go.Shelf
set_option linter.unusedVariables false
set_option linter.unusedSimpArgs false
set_option maxRecDepth 100000

/-- The Value that a text says; none where it says none. -/
def plnV : Nat → Txt → Option Txt
  | _, [] => some []
  | 0, _ :: _ => none
  | f + 1, c :: l => if c = 92 then (if 2 ≤ l.length then (hexN (l.take 2)).bind fun n => (plnV f (l.drop 2)).map (UInt8.ofNat n :: ·) else none)
      else if plainP c = true then (plnV f l).map (c :: ·) else none
theorem plnV_cons (f : Nat) (c : UInt8) (l : Txt) : plnV (f + 1) (c :: l) = if c = 92 then (if 2 ≤ l.length then (hexN (l.take 2)).bind fun n => (plnV f (l.drop 2)).map (UInt8.ofNat n :: ·) else none)
      else if plainP c = true then (plnV f l).map (c :: ·) else none := rfl
theorem hexN_two8 {l : Txt} (hl : l.length = 2) {N : Nat} (h : hexN l = some N) : N < 256 := by
  match l, hl with
  | [c, d], _ =>
    unfold hexN at h
    simp only [List.foldl_cons, List.foldl_nil] at h
    cases h1 : dig1 c.toNat with
    | none => rw [h1] at h; simp at h
    | some a =>
      cases h2 : dig1 d.toNat with
      | none => rw [h1, h2] at h; simp at h
      | some b =>
        rw [h1, h2] at h
        simp at h
        have e1 := dig_bound h1
        have e2 := dig_bound h2
        omega
/-- What a round finds: the bytes read, what is left. -/
def PlnI (T acc U : Txt) : Prop := ∃ f, U.length ≤ f ∧ plnV T.length T = (plnV f U).map (acc ++ ·) ∧ acc.length + U.length ≤ T.length
theorem PlnI.start (T : Txt) : PlnI T [] T := ⟨T.length, Nat.le_refl _, by cases plnV T.length T <;> simp, by simp⟩
theorem PlnI.fin {T acc : Txt} (h : PlnI T acc []) : plnV T.length T = some acc := by
  obtain ⟨f, _, h2, _⟩ := h
  rw [h2]
  cases f <;> simp [plnV]
theorem PlnI.no {T acc l : Txt} {c : UInt8} (h : PlnI T acc (c :: l)) (h9 : c ≠ 92) (hp : plainP c = false) : plnV T.length T = none := by
  obtain ⟨f, h1, h2, _⟩ := h
  cases f with
  | zero => simp at h1
  | succ f => rw [h2, plnV_cons, if_neg h9, if_neg (by rw [hp]; simp)]; rfl
theorem PlnI.yes {T acc l : Txt} {c : UInt8} (h : PlnI T acc (c :: l)) (h9 : c ≠ 92) (hp : plainP c = true) : PlnI T (acc ++ [c]) l := by
  obtain ⟨f, h1, h2, h3⟩ := h
  cases f with
  | zero => simp at h1
  | succ f =>
    simp only [List.length_cons] at h1 h3
    refine ⟨f, by omega, ?_, by simp; omega⟩
    rw [h2, plnV_cons, if_neg h9, if_pos hp]
    cases plnV f l <;> simp
theorem PlnI.short {T acc l : Txt} (h : PlnI T acc (92 :: l)) (hl : l.length < 2) : plnV T.length T = none := by
  obtain ⟨f, h1, h2, _⟩ := h
  cases f with
  | zero => simp at h1
  | succ f => rw [h2, plnV_cons, if_pos rfl, if_neg (by omega)]; rfl
theorem PlnI.bad {T acc l : Txt} (h : PlnI T acc (92 :: l)) (hx : hexN (l.take 2) = none) : plnV T.length T = none := by
  obtain ⟨f, h1, h2, _⟩ := h
  cases f with
  | zero => simp at h1
  | succ f =>
    rw [h2, plnV_cons, if_pos rfl, hx]
    split <;> rfl
theorem PlnI.hex {T acc l : Txt} {n : Nat} (h : PlnI T acc (92 :: l)) (hl : 2 ≤ l.length) (hx : hexN (l.take 2) = some n) : PlnI T (acc ++ [UInt8.ofNat n]) (l.drop 2) := by
  obtain ⟨f, h1, h2, h3⟩ := h
  cases f with
  | zero => simp at h1
  | succ f =>
    simp only [List.length_cons] at h1 h3
    refine ⟨f, by rw [List.length_drop]; omega, ?_, by rw [List.length_drop]; simp; omega⟩
    rw [h2, plnV_cons, if_pos rfl, if_pos hl, hx]
    show Option.map _ (Option.map _ _) = _
    cases plnV f (l.drop 2) <;> simp
theorem src_lit35 (w : World) (cs : Array Value) (l : List UInt8) (h : cs = (l.map bv).toArray) : Src (w.alloc (.cells cs 5)) (some ⟨w.heap.size, 0, none⟩) l.length (l.map bv) := by
  subst h
  refine ⟨(fun h => by cases h), fun ad hA j u hu => ?_⟩
  injection hA with hA
  subst hA
  rw [add_at, Nat.zero_add, World.cell?_alloc_new]
  simpa using hu
theorem keeps_own35 {w a b : World} {bs : List Nat} {e : TypeId} {k n : Nat} {v : Value} {xs : List Value} (h : a.ownsRow w.heap.size e k v n xs) (hk : Keeps bs w a) (hg : a.grownBy b v.ownBlock) : Keeps bs w b :=
  hk.trans (Keeps.of_grown (bs := v.ownBlock.toList) hg (fun x hx => .inl (by rw [hx]; simp))) (fun x hx => .inr (by
    cases hv : v.ownBlock with
    | none => rw [hv] at hx; simp at hx
    | some y => rw [hv] at hx; simp at hx; subst hx; exact (h.lt x hv).1))
/-- What a round of plainValue's loop finds in memory. -/
structure PlnS (T : Txt) (p : Nat) (W1 wr : World) (A : Option Addr) (an cc : Nat) (acc U : Txt) : Prop where
  inv : PlnI T acc U
  len : acc.length = an
  box : RstAt wr p U
  row : wr.ownsRow W1.heap.size 5 1 (.slice A an cc) an (acc.map bv)
  keep : Keeps [p] W1 wr
theorem PlnS.more {T acc U U2 : Txt} {p an cc : Nat} {x : UInt8} {W1 wr w2 w3 : World} {A : Option Addr} {v : Value} (h : PlnS T p W1 wr A an cc acc U) (hp : p < W1.heap.size) (hi : PlnI T (acc ++ [x]) U2) (hb : RstAt w2 p U2) (hk : Keeps [p] wr w2)
    (ho : w3.ownsRow W1.heap.size 5 1 v (an + 1) (acc.map bv ++ [bv x])) (hg : (w2.alloc (.cells #[bv x] 5)).grownBy w3 (Value.slice A an cc).ownBlock) : ∃ VB vd, v = .slice VB (an + 1) vd ∧ PlnS T p W1 w3 VB (an + 1) vd (acc ++ [x]) U2 := by
  obtain ⟨VB, vd, hv⟩ := own_slice ho
  subst hv
  have hnp : ∀ b, (Value.slice A an cc).ownBlock = some b → b ∉ [p] := fun b hb hm => by
    have := (h.row.lt b hb).1
    simp at hm
    omega
  have hrow2 : (w2.alloc (.cells #[bv x] 5)).ownsRow W1.heap.size 5 1 (.slice A an cc) an (acc.map bv) := own_keep h.row (hk.alloc _) hnp
  have hk2 : Keeps [p] W1 (w2.alloc (.cells #[bv x] 5)) := h.keep.trans (hk.alloc _) (fun x hx => .inl hx)
  refine ⟨VB, vd, rfl, hi, by simp [h.len], ?_, by simpa using ho, keeps_own35 hrow2 hk2 hg⟩
  have hgk := Keeps.of_grown (bs := (Value.slice A an cc).ownBlock.toList) hg (fun x hx => .inl (by rw [hx]; simp))
  have hb2 : RstAt (w2.alloc (.cells #[bv x] 5)) p U2 := hb.keep (bs := []) ((Keeps.refl [] _).alloc _) (by simp)
  refine hb2.keep hgk (fun hm => ?_)
  have h9 : (Value.slice A an cc).ownBlock = some p := by simpa using hm
  exact hnp p h9 (by simp)
def restLen (w : World) (p : Nat) : Nat := match w.cell? ⟨p, 0, none⟩ with | some (.string s) => s.size | _ => 0
theorem restLen_is {w : World} {p : Nat} {U : Txt} (h : RstAt w p U) : restLen w p = U.length := by
  unfold restLen
  rw [h.cells.1]
  rfl
def PlvQ (T : Txt) (w : World) (e : Ending) (w' : World) : Prop := (∀ v, plnV T.length T = some v → e = .returned (tv v)) ∧ (plnV T.length T = none → e = gaveUp8 180) ∧ Keeps [] w w'
set_option maxHeartbeats 8000000 in
theorem plainvalue_is (T : Txt) (w : World) (hl : T.length ≤ 1000000000) (hs : SynAt w) :
    Calls Tryz.prog 137 #[tv T] w fun e w' => PlvQ T w e w' := by
  obtain ⟨iu, hiu, hzu0, hzu1, hzu2⟩ := info_parts u8_info
  have hsl := hs.lt
  have hnew := heap_new8 w (.cells #[.string ⟨T.toArray⟩] 113)
  have hK : Keeps [] w (w.alloc (.cells #[.string ⟨T.toArray⟩] 113)) := (Keeps.refl [] w).alloc _
  have hsz : (w.alloc (.cells #[.string ⟨T.toArray⟩] 113)).heap.size = w.heap.size + 1 := by simp
  obtain ⟨W1, hW1⟩ : ∃ W1, w.alloc (.cells #[.string ⟨T.toArray⟩] 113) = W1 := ⟨_, rfl⟩
  rw [hW1] at hnew hK hsz
  obtain ⟨p, hp⟩ : ∃ p, w.heap.size = p := ⟨_, rfl⟩
  have HP := Lib.hid hp
  have HSZ := Lib.hid hsz
  have HK := Lib.hid hK
  have HS : Hid (∀ X, Keeps [p] W1 X → SynAt X) := fun X hk => (hs.keep hK (by simp)).keep hk (by simp; omega)
  have HB : Hid (RstAt W1 p T) := by rw [hp] at hnew; exact hnew
  have HPL : Hid (p < W1.heap.size) := by show _ < _; omega
  obtain ⟨n, hn⟩ : ∃ n, T.length = n := ⟨_, rfl⟩
  have HN := Lib.hid hn
  rw [hn] at hl
  have HW1 := Lib.hid hW1
  have HM := Lib.hid (must8_yes 180)
  have HMN := Lib.hid (must8_no 180)
  have HBAD : Hid (∀ w2, Keeps [p] W1 w2 → plnV T.length T = none → PlvQ T w (gaveUp8 180) w2) := fun w2 hk h9 => ⟨fun v h => (by rw [h9] at h; cases h), fun _ => rfl, hK.trans hk (fun x hx => .inr (by simp at hx; subst hx; omega))⟩
  clear hs hsl hnew hK hsz hW1 hn
  unfold tv
  go_enter Tryz.func137, Tryz.ntmps137
  go_wp2_with fail
  rw [HW1.out]
  try simp only [hp]
  clear hp
  go_loopw [3] (fun o wr => ∃ (A : Option Addr) (an cc : Nat) (acc U : Txt), o = .slice A an cc ∧ Hid (PlnS T p W1 wr A an cc acc U)) (fun _ wr => restLen wr p)
  case atStart => exact ⟨none, 0, 0, [], T, rfl, PlnI.start T, rfl, HB.out, World.ownsRow_nil _ _ _ _, Keeps.refl _ _⟩
  case round =>
    obtain ⟨A, an, cc, acc, U, rfl, HV⟩ := hrel
    obtain ⟨c0, f0⟩ := HV.out.box.cells
    have HRL := Lib.hid (restLen_is HV.out.box)
    have han : an ≤ n := by obtain ⟨f, _, _, h3⟩ := HV.out.inv; have := HN.out; have := HV.out.len; omega
    cases U with
    | nil =>
      have hfin := HV.out.inv.fin
      have hcb := conv_bytes (BytesAt.of_own (by have h9 := HV.out.row; rw [← HV.out.len] at h9; exact h9))
      rw [HV.out.len] at hcb
      have HKK : Hid (Keeps [] w wr) := HK.out.trans HV.out.keep (fun x hx => .inr (by simp at hx; subst hx; have := HP.out; omega))
      have HR : Hid (PlvQ T w (.returned (tv acc)) wr) := ⟨fun v h => (by rw [hfin] at h; injection h with h; subst h; rfl), fun h => (by rw [hfin] at h; cases h), HKK.out⟩
      clear hfin HRL
      go_wp2_with fail
      go_ret
      exact HR.out
    | cons u l =>
      have hul : u.toNat < 256 := u.toNat_lt
      have hanl : an < n := by obtain ⟨f, _, _, h3⟩ := HV.out.inv; have := HN.out; have := HV.out.len; simp only [List.length_cons] at h3; omega
      have HNX := Lib.hid (next8_yes p (u :: l) 1 wr HV.out.box (by simp))
      rw [show (u :: l).take 1 = [u] from rfl, show (u :: l).drop 1 = l from rfl] at HNX
      have HNP : Hid (∀ b, (Value.slice A an cc).ownBlock = some b → b ∉ [p]) := fun b hb hm => by
        have h8 := (HV.out.row.lt b hb).1
        have h9 := HPL.out
        simp at hm
        omega
      go_wp2_with fail
      refine HNX.out.mono ?_
      rintro e w1 ⟨rfl, hb1, hk1⟩
      have HB1 := Lib.hid hb1
      have HKW1 : Hid (Keeps [p] W1 w1) := HV.out.keep.trans hk1 (fun x hx => .inl hx)
      have HK1 := Lib.hid hk1
      clear hb1 hk1 c0 f0
      unfold tv
      by_cases h92 : u = 92
      · subst h92
        have h92k : ((((⟨#[92]⟩ : ByteArray)[0]'(by decide)).toNat : Int) = 92) := rfl
        by_cases h2 : 2 ≤ l.length
        · have HN2 := Lib.hid (next8_yes p l 2 w1 HB1.out h2)
          have hl2 : (l.take 2).length = 2 := by rw [List.length_take]; omega
          have HPU := Lib.hid (fun X (hX : Keeps [p] W1 X) => scpu_is (l.take 2) X hl2 (HS.out X hX))
          have HEX := Lib.hid (fun k (h : hexN (l.take 2) = some k) => HV.out.inv.hex h2 h)
          have HBX := Lib.hid (fun (h : hexN (l.take 2) = none) => HV.out.inv.bad h)
          have HNU := Lib.hid (fun N (h : hexN (l.take 2) = some N) => hexN_two8 hl2 h)
          obtain ⟨R, hR⟩ : ∃ R, hexN (l.take 2) = R := ⟨_, rfl⟩
          rw [hR] at HPU HEX HBX HNU
          clear hR hl2 HNX
          generalize l.take 2 = l2 at HN2 HPU
          unfold tv at HN2
          go_wp2_with fail
          refine HN2.out.mono ?_
          rintro e w2 ⟨rfl, hb2, hk2⟩
          have HB2 := Lib.hid hb2
          have HKW2a : Hid (Keeps [p] W1 w2) := HKW1.out.trans hk2 (fun x hx => .inl hx)
          have HK2 : Hid (Keeps [p] wr w2) := HK1.out.trans hk2 (fun x hx => .inl hx)
          clear hb2 hk2
          go_wp2_with fail
          refine (HPU.out w2 HKW2a.out).mono ?_
          rintro e w3 ⟨⟨hp1, hp2⟩, hk3⟩
          have HBQ : Hid (RstAt w3 p (l.drop 2)) := HB2.out.keep hk3 (by simp)
          have HKW2 : Hid (Keeps [p] W1 w3) := HKW2a.out.trans hk3 (fun x hx => by cases hx)
          have HKR2 : Hid (Keeps [p] wr w3) := HK2.out.trans hk3 (fun x hx => by cases hx)
          clear hk3
          cases R with
          | none =>
            obtain ⟨x, t, v, rfl⟩ := hp2 rfl
            have HR := Lib.hid (HBAD.out w3 HKW2.out (HBX.out rfl))
            clear hp1 hp2
            go_wp2_with fail
            refine (HMN.out _).mono ?_
            rintro e w4 ⟨rfl, rfl⟩
            go_wp2_with fail
            exact ⟨rfl, HR.out⟩
          | some k =>
            obtain rfl := hp1 k rfl
            have hk256 := HNU.out k rfl
            have HVI : Hid (PlnI T (acc ++ [UInt8.ofNat k]) (l.drop 2)) := HEX.out k rfl
            obtain ⟨x, hx⟩ : ∃ x, UInt8.ofNat k = x := ⟨_, rfl⟩
            rw [hx] at HVI
            have hxk : (k : Int) = (x.toNat : Int) := by rw [← hx]; simp; omega
            clear hp1 hp2 hx
            rw [hxk]
            have hx256 : x.toNat < 256 := x.toNat_lt
            go_wp2_with fail
            refine (HM.out _).mono ?_
            rintro e w4 ⟨rfl, rfl⟩
            go_wp2_with (at_builtin; refine wpList_append_opt rfl (.tmp 28) (.tmp 30) 37 rfl W1.heap.size 5 iu _ 1 1 Tryz.underlying37 hiu hzu0 hzu1 hzu2 rfl (by decide) (.slice A an cc) an (acc.map bv) rfl (own_keep HV.out.row (HKR2.out.alloc _) HNP.out) (some ⟨w3.heap.size, 0, none⟩) 1 1 ([x].map bv) rfl rfl (src_lit35 w3 _ [x] rfl) bvs_one (by unfold maxLen; omega) (by omega) (by have := HKW2.out.size; simp; omega) ?_; intro v3 w3 ho hg3 hs3; obtain ⟨VB, vd, hv3, hnew⟩ := HV.out.more HPL.out HVI.out HBQ.out HKR2.out ho hg3; subst hv3; have HNEW := Lib.hid hnew; clear hnew ho hg3 hs3)
            go_roundw
            case rel => exact ⟨VB, an + 1, vd, acc ++ [x], l.drop 2, rfl, HNEW.out⟩
            case measure =>
              have e1 := HRL.out
              have e2 := restLen_is HNEW.out.box
              rw [e1, e2, List.length_drop, List.length_cons]
              omega
        · have HN2 := Lib.hid (next8_no p l 2 w1 HB1.out (by omega))
          have HSH := Lib.hid (HV.out.inv.short (by omega))
          have HR : Hid (∀ X, Keeps [p] W1 X → PlvQ T w (gaveUp8 180) X) := fun X hX => HBAD.out X hX HSH.out
          clear HNX
          go_wp2_with fail
          refine HN2.out.mono ?_
          rintro e w2 ⟨rfl, hk2⟩
          have HKW2 : Hid (Keeps [p] W1 w2) := HKW1.out.trans hk2 (fun x hx => .inl hx)
          go_wp2_with fail
          exact ⟨rfl, HR.out w2 HKW2.out⟩
      · have h92i : ¬ (u.toNat : Int) = 92 := fun h => h92 (UInt8.toNat_inj.1 (by show u.toNat = 92; omega))
        have h92j : ¬ ((((⟨#[u]⟩ : ByteArray)[0]'(by show 0 < 1; omega)).toNat : Int) = 92) := h92i
        have h92b : (((((⟨#[u]⟩ : ByteArray)[0]'(by show 0 < 1; omega)).toNat : Int)) == 92) = false := by simpa using h92j
        have HPN := Lib.hid (isplain8_is u w1)
        have HNO := Lib.hid (fun h => HV.out.inv.no h92 h)
        have HYES := Lib.hid (fun h => HV.out.inv.yes h92 h)
        obtain ⟨pl, hpl⟩ : ∃ pl, plainP u = pl := ⟨_, rfl⟩
        rw [hpl] at HPN HNO HYES
        clear hpl h92 HNX
        go_wp2_with fail
        refine HPN.out.mono ?_
        rintro e w2 ⟨rfl, rfl⟩
        cases pl
        · have HR := Lib.hid (HBAD.out w1 HKW1.out (HNO.out rfl))
          go_wp2_with fail
          refine (HMN.out _).mono ?_
          rintro e w5 ⟨rfl, rfl⟩
          go_wp2_with fail
          exact ⟨rfl, HR.out⟩
        · have HVI : Hid (PlnI T (acc ++ [u]) l) := HYES.out rfl
          have HKR2 := HK1
          have HKW2 := HKW1
          have HBQ := HB1
          go_wp2_with fail
          refine (HM.out _).mono ?_
          rintro e w5 ⟨rfl, rfl⟩
          go_wp2_with (at_builtin; refine wpList_append_opt rfl (.tmp 28) (.tmp 30) 37 rfl W1.heap.size 5 iu _ 1 1 Tryz.underlying37 hiu hzu0 hzu1 hzu2 rfl (by decide) (.slice A an cc) an (acc.map bv) rfl (own_keep HV.out.row (HKR2.out.alloc _) HNP.out) (some ⟨w1.heap.size, 0, none⟩) 1 1 ([u].map bv) rfl rfl (src_lit35 w1 _ [u] rfl) bvs_one (by unfold maxLen; omega) (by omega) (by have := HKW2.out.size; simp; omega) ?_; intro v3 w3 ho hg3 hs3; obtain ⟨VB, vd, hv3, hnew⟩ := HV.out.more HPL.out HVI.out HBQ.out HKR2.out ho hg3; subst hv3; have HNEW := Lib.hid hnew; clear hnew ho hg3 hs3)
          go_roundw
          case rel => exact ⟨VB, an + 1, vd, acc ++ [u], l, rfl, HNEW.out⟩
          case measure =>
            have e1 := HRL.out
            have e2 := restLen_is HNEW.out.box
            rw [e1, e2, List.length_cons]
            omega
end Go.Proofs.YtbfebljahjmjfaaGreatDoor
/- filter: what a filter has but those in its Of, read off a text; walked. -/
namespace Go.Proofs.YtbfebljahjmjfaaGreatDoor
open Go.RowKit Go.Shelf
set_option linter.unusedVariables false
set_option linter.unusedSimpArgs false
set_option maxRecDepth 100000

/-- What head takes off: the kind, the name, the Value, what is left. -/
def headP (T : Txt) : Option (Int × Txt × Txt × Txt) :=
  if begP [38] T = true then some (1, [], [], T.drop 1) else if begP [124] T = true then some (2, [], [], T.drop 1) else if begP [33] T = true then some (3, [], [], T.drop 1) else
  match untP [61] T with
  | none => none
  | some n => match untP [40, 41, 42] ((T.drop n).drop 1) with
    | none => none
    | some m => match plnV (((T.drop n).drop 1).take m).length (((T.drop n).drop 1).take m) with
      | none => none
      | some v => some (if begP [42] (((T.drop n).drop 1).drop m) = true then (if v = [] then 6 else 5) else 4, T.take n, v, behP [42] (((T.drop n).drop 1).drop m))
def HeaQ (g : Nat) (T : Txt) (w : World) (e : Ending) (w' : World) : Prop :=
  (∀ k s v R, headP T = some (k, s, v, R) → e = .returned (FH.val ⟨k, none, 0, 0, s, v⟩) ∧ RstAt w' g R) ∧ (headP T = none → e = gaveUp8 180) ∧ Keeps [g] w w'
theorem SgnAt.keep8 {w X : World} {g : Nat} (h : SgnAt w) (hk : Keeps [g] w X) (hg : 0 ≠ g) : SgnAt X :=
  ⟨(hk.cell (lt_of_cell h.1) (by simpa using hg)).trans h.1, (hk.cell (lt_of_cell h.2.1) (by simpa using hg)).trans h.2.1, (hk.cell (lt_of_cell h.2.2) (by simpa using hg)).trans h.2.2⟩
theorem head_sign {T : Txt} {k : Nat} (h1 : 1 ≤ k) (h3 : k ≤ 3) (hn : ∀ j : Nat, 1 ≤ j → j < k → begP (sgnT j) T = false) (hy : begP (sgnT k) T = true) : headP T = some ((k : Int), [], [], T.drop 1) := by
  rcases (by omega : k = 1 ∨ k = 2 ∨ k = 3) with rfl | rfl | rfl
  · have h9 : begP [38] T = true := hy
    unfold headP
    rw [if_pos h9]; rfl
  · have h9 : begP [124] T = true := hy
    have h8 : begP [38] T = false := hn 1 (by omega) (by omega)
    unfold headP
    rw [if_neg (by rw [h8]; simp), if_pos h9]; rfl
  · have h9 : begP [33] T = true := hy
    have h8 : begP [38] T = false := hn 1 (by omega) (by omega)
    have h7 : begP [124] T = false := hn 2 (by omega) (by omega)
    unfold headP
    rw [if_neg (by rw [h8]; simp), if_neg (by rw [h7]; simp), if_pos h9]; rfl
theorem untP_one : ∀ (T : Txt) (n : Nat), untP [61] T = some n → begP [61] (T.drop n) = true
  | [], n, h => by cases h
  | b :: l, n, h => by
    unfold untP at h
    split at h
    · rename_i hc
      cases h
      have hb : b = 61 := by simpa using hc
      subst hb
      rfl
    · obtain ⟨m, hm, rfl⟩ := Option.map_eq_some_iff.1 h
      exact untP_one l m hm
theorem headP_not {T : Txt} (h1 : begP [38] T = false) (h2 : begP [124] T = false) (h3 : begP [33] T = false) : headP T = match untP [61] T with
  | none => none
  | some n => match untP [40, 41, 42] ((T.drop n).drop 1) with
    | none => none
    | some m => match plnV (((T.drop n).drop 1).take m).length (((T.drop n).drop 1).take m) with
      | none => none
      | some v => some (if begP [42] (((T.drop n).drop 1).drop m) = true then (if v = [] then 6 else 5) else 4, T.take n, v, behP [42] (((T.drop n).drop 1).drop m)) := by
  unfold headP
  rw [if_neg (by rw [h1]; simp), if_neg (by rw [h2]; simp), if_neg (by rw [h3]; simp)]
theorem sgn_more {T : Txt} {k : Nat} (hn : ∀ j : Nat, 1 ≤ j → j < k → begP (sgnT j) T = false) (hy : begP (sgnT k) T = false) : ∀ j : Nat, 1 ≤ j → j < k + 1 → begP (sgnT j) T = false := fun j h1 h2 => by
  by_cases hj : j < k
  · exact hn j h1 hj
  · obtain rfl : j = k := by omega
    exact hy
set_option maxHeartbeats 8000000 in
theorem head8_is (g : Nat) (T : Txt) (w : World) (h : RstAt w g T) (hT : T.length ≤ 1000000000) (hG : SgnAt w) (hs : SynAt w) (hg : 0 ≠ g) (hsg : 3 ≠ g) :
    Calls Tryz.prog 83 #[.pointer (some ⟨g, 0, none⟩)] w fun e w' => HeaQ g T w e w' := by
  have hgl := h.lt
  have HB0 := Lib.hid (heap_new8 w (.cells #[.int .i64 0, .slice none 0 0, .string ⟨#[]⟩, .string ⟨#[]⟩] 26))
  have hk0 : Keeps [] w (w.alloc (.cells #[.int .i64 0, .slice none 0 0, .string ⟨#[]⟩, .string ⟨#[]⟩] 26)) := (Keeps.refl [] w).alloc _
  obtain ⟨W1, hW1⟩ : ∃ W1, w.alloc (.cells #[.int .i64 0, .slice none 0 0, .string ⟨#[]⟩, .string ⟨#[]⟩] 26) = W1 := ⟨_, rfl⟩
  obtain ⟨R, hR⟩ : ∃ R, w.heap.size = R := ⟨_, rfl⟩
  rw [hW1, hR] at HB0
  rw [hW1] at hk0
  have HR := Lib.hid hR
  have HW1 := Lib.hid hW1
  have HGR : Hid (R ≠ g) := by show R ≠ g; omega
  have HK0 := Lib.hid hk0
  have HG : Hid (∀ X, Keeps [g] W1 X → SgnAt X) := fun X hX => (hG.keep hk0).keep8 hX hg
  have HS : Hid (∀ X, Keeps [g] W1 X → SynAt X) := fun X hX => (hs.keep hk0 (by simp)).keep hX (by simpa using hsg)
  have HB : Hid (RstAt W1 g T) := h.keep hk0 (by simp)
  have HT := Lib.hid hT
  have HH := Lib.hid (fun (p : Txt) (hp : p.length ≤ 1) X (hX : RstAt X g T) => has8_is g T p X hX hT (by omega))
  have HEND : Hid (∀ X Y, Keeps [g] W1 X → Keeps [R] X Y → Keeps [g] w Y) := fun X Y h1 h2 => ((hk0.mono (by simp)).trans h1 (fun x hx => .inl hx)).trans h2 (fun x hx => .inr (by simp at hx; subst hx; omega))
  have HCELL : Hid (∀ X, Keeps [g] W1 X → X.heap[R]? = some (.cells #[.int .i64 0, .slice none 0 0, .string ⟨#[]⟩, .string ⟨#[]⟩] 26 (0, 0))) := fun X hX => blk_keep HB0.out hX (by simpa using HGR.out)
  clear h hT hG hs hg hsg hW1 hk0
  go_enter Tryz.func83, Tryz.ntmps83
  go_wp2_with fail
  rw [HW1.out]
  try simp only [hR]
  clear hR
  go_loopw [3] (fun kd wr => ∃ k : Nat, kd = .int .i64 (k : Int) ∧ 1 ≤ k ∧ k ≤ 4 ∧ Hid (∀ j : Nat, 1 ≤ j → j < k → begP (sgnT j) T = false) ∧ Hid (RstAt wr g T) ∧ Hid (Keeps [g] W1 wr)) (fun kd _ => 4 - (intOf kd).toNat)
  case atStart => exact ⟨1, rfl, by omega, by omega, fun j h1 h2 => by omega, HB.out, Keeps.refl _ _⟩
  case round =>
    obtain ⟨k, rfl, hk1, hk4, HNO, HX, HK⟩ := hrel
    by_cases h4 : k = 4
    · subst h4
      have HHD := Lib.hid (headP_not (T := T) (HNO.out 1 (by omega) (by omega)) (HNO.out 2 (by omega) (by omega)) (HNO.out 3 (by omega) (by omega)))
      have HBAD : Hid (∀ X, Keeps [g] W1 X → headP T = none → HeaQ g T w (gaveUp8 180) X) := fun X hX h9 => ⟨fun k s v R h8 => (by rw [h9] at h8; cases h8), fun _ => rfl, HEND.out X X hX (Keeps.refl _ _)⟩
      have HRU := Lib.hid (untP_index [61] T)
      cases hn : untP [61] T with
      | none =>
        rw [hn] at HRU HHD
        have HI := Lib.hid (fun W => by have h9 := iany_one T W; rw [HRU.out] at h9; exact h9)
        have HU := Lib.hid (until8_no g T ⟨#[61]⟩ wr HX.out HI.out)
        have HR9 := Lib.hid (fun X hX => HBAD.out X hX HHD.out)
        clear hn
        go_wp2_with fail
        refine HU.out.mono ?_
        rintro e w1 ⟨rfl, hk⟩
        have HR8 := Lib.hid (HR9.out w1 (HK.out.trans hk (fun x hx => .inl hx)))
        clear hk
        go_wp2_with fail
        exact ⟨rfl, HR8.out⟩
      | some n =>
        have hnl := untP_le _ _ _ hn
        have hb := untP_one _ _ hn
        rw [hn] at HRU HHD
        have HI := Lib.hid (fun W => by have h9 := iany_one T W; rw [HRU.out] at h9; exact h9)
        have HU := Lib.hid (until8_yes g T ⟨#[61]⟩ n wr HX.out (by omega) HI.out)
        have HTK := Lib.hid (fun X (hX : RstAt X g (T.drop n)) => take8_yes g (T.drop n) [61] X hX (by have := HT.out; rw [List.length_drop]; omega) (by decide) hb)
        obtain ⟨U, hU⟩ : ∃ U, (T.drop n).drop 1 = U := ⟨_, rfl⟩
        have HUL : Hid (U.length ≤ 1000000000) := by have := HT.out; show _ ≤ _; rw [← hU, List.length_drop, List.length_drop]; omega
        rw [show ([61] : Txt).length = 1 from rfl] at HTK
        rw [hU] at HTK
        dsimp only at HHD
        rw [hU] at HHD
        clear hn hnl hb hU
        obtain ⟨x, hx⟩ : ∃ x, T.take n = x := ⟨_, rfl⟩
        rw [hx] at HU HHD
        clear hx
        generalize T.drop n = T2 at HU HTK
        have HRU2 := Lib.hid (untP_index [40, 41, 42] U)
        unfold tv at HU HTK
        go_wp2_with fail
        refine HU.out.mono ?_
        rintro e w1 ⟨rfl, hr1, hk1⟩
        have HX1 := Lib.hid hr1
        have HK1 : Hid (Keeps [g] W1 w1) := HK.out.trans hk1 (fun x hx => .inl hx)
        clear hr1 hk1
        obtain ⟨F, hF⟩ : ∃ F, w1.heap.size = F := ⟨_, rfl⟩
        have HF0 := Lib.hid (heap_new8 w1 (.cells #[.int .i64 4, .slice none 0 0, .string ⟨x.toArray⟩, .string ⟨#[]⟩] 26))
        have HKF : Hid (Keeps [] w1 (w1.alloc (.cells #[.int .i64 4, .slice none 0 0, .string ⟨x.toArray⟩, .string ⟨#[]⟩] 26))) := (Keeps.refl [] w1).alloc _
        have HFL : Hid (W1.heap.size ≤ F ∧ g < F ∧ R < F) := by
          have e1 := HK1.out.size
          have e2 := lt_of_heap HB0.out
          have e3 := HX1.out.lt
          exact ⟨by omega, by omega, by omega⟩
        rw [hF] at HF0
        go_wp2_with fail
        try simp only [hF]
        clear hF
        generalize w1.alloc (.cells #[.int .i64 4, .slice none 0 0, .string ⟨x.toArray⟩, .string ⟨#[]⟩] 26) = w1a at HF0 HKF ⊢
        refine (HTK.out w1a (HX1.out.keep HKF.out (by simp))).mono ?_
        rintro e w2 ⟨rfl, hr2, hk2⟩
        have HX2 := Lib.hid hr2
        have HK2 : Hid (Keeps [g] W1 w2) := (HK1.out.trans HKF.out (fun x hx => by cases hx)).trans hk2 (fun x hx => .inl hx)
        have HF2 := Lib.hid (blk_keep HF0.out hk2 (by have := HFL.out; simp; omega))
        clear hr2 hk2
        cases hm : untP [40, 41, 42] U with
        | none =>
          rw [hm] at HRU2 HHD
          have HI2 := Lib.hid (fun W => by have h9 := iany_is U W HUL.out; rw [HRU2.out] at h9; exact h9)
          have HU2 := Lib.hid (until8_no g U ⟨#[40, 41, 42]⟩ w2 HX2.out HI2.out)
          have HR9 := Lib.hid (fun X hX => HBAD.out X hX HHD.out)
          clear hm
          go_wp2_with fail
          refine HU2.out.mono ?_
          rintro e w3 ⟨rfl, hk⟩
          have HR8 := Lib.hid (HR9.out w3 (HK2.out.trans hk (fun x hx => .inl hx)))
          clear hk
          go_wp2_with fail
          exact ⟨rfl, HR8.out⟩
        | some m =>
          have hml := untP_le _ _ _ hm
          rw [hm] at HRU2 HHD
          have HI2 := Lib.hid (fun W => by have h9 := iany_is U W HUL.out; rw [HRU2.out] at h9; exact h9)
          have HU2 := Lib.hid (until8_yes g U ⟨#[40, 41, 42]⟩ m w2 HX2.out (by omega) HI2.out)
          have HPV := Lib.hid (fun X (hX : Keeps [g] W1 X) => plainvalue_is (U.take m) X (by have := HUL.out; rw [List.length_take]; omega) (HS.out X hX))
          dsimp only at HHD
          have HVL : Hid ((U.drop m).length ≤ 1000000000) := by have := HUL.out; show _ ≤ _; rw [List.length_drop]; omega
          unfold PlvQ at HPV
          clear hm hml
          generalize U.take m = V at HU2 HPV HHD
          generalize U.drop m = Z at HU2 HVL HHD
          obtain ⟨pv, hpv⟩ : ∃ pv, plnV V.length V = pv := ⟨_, rfl⟩
          rw [hpv] at HPV HHD
          clear hpv
          unfold tv at HU2 HPV
          go_wp2_with fail
          refine HU2.out.mono ?_
          rintro e w3 ⟨rfl, hr3, hk3⟩
          have HX3 := Lib.hid hr3
          have HK3 : Hid (Keeps [g] W1 w3) := HK2.out.trans hk3 (fun x hx => .inl hx)
          have HF3 := Lib.hid (blk_keep HF2.out hk3 (by have := HFL.out; simp; omega))
          clear hr3 hk3
          go_wp2_with fail
          refine (HPV.out w3 HK3.out).mono ?_
          rintro e w4 ⟨hp1, hp2, hk4⟩
          have HX4 := Lib.hid (HX3.out.keep hk4 (by simp))
          have HK4 : Hid (Keeps [g] W1 w4) := HK3.out.trans hk4 (fun x hx => by cases hx)
          have HF4 := Lib.hid (blk_keep HF3.out hk4 (by simp))
          clear hk4
          cases pv with
          | none =>
            obtain rfl := hp2 rfl
            have HR8 := Lib.hid (HBAD.out w4 HK4.out HHD.out)
            clear hp1 hp2
            go_wp2_with fail
            exact ⟨rfl, HR8.out⟩
          | some v =>
            obtain rfl := hp1 v rfl
            clear hp1 hp2
            dsimp only at HHD
            have HF5 := Lib.hid (heap_setCell_same w4 F 3 _ _ (.string ⟨v.toArray⟩) HF4.out)
            have HX5 : Hid (RstAt (w4.setCell ⟨F, 3, none⟩ (.string ⟨v.toArray⟩)) g Z) := HX4.out.keep (bs := [F]) ((Keeps.refl [F] w4).setCell (.inl (by simp)) _) (by have := HFL.out; simp; omega)
            have HK5 : Hid (Keeps [g] W1 (w4.setCell ⟨F, 3, none⟩ (.string ⟨v.toArray⟩))) := HK4.out.setCell (.inr HFL.out.1) _
            have HH2 := Lib.hid (fun X (hX : RstAt X g Z) => has8_is g Z [42] X hX HVL.out (by decide))
            obtain ⟨q, hq⟩ : ∃ q, begP [42] Z = q := ⟨_, rfl⟩
            rw [hq] at HH2 HHD
            clear hq
            obtain ⟨Z2, hZ2⟩ : ∃ Z2, behP [42] Z = Z2 := ⟨_, rfl⟩
            rw [hZ2] at HH2 HHD
            clear hZ2
            unfold tv at HH2
            obtain ⟨⟨q0, q1, q2, q3⟩, y0, y1, y2, y3⟩ := four_facts8 HF4.out
            go_wp2_with fail
            generalize w4.setCell ⟨F, 3, none⟩ (.string ⟨v.toArray⟩) = w5 at HF5 HX5 HK5 ⊢
            refine (HH2.out w5 HX5.out).mono ?_
            rintro e w6 ⟨rfl, hr6, hk6⟩
            have HX6 := Lib.hid hr6
            have HK6 : Hid (Keeps [g] W1 w6) := HK5.out.trans hk6 (fun x hx => .inl hx)
            have HF6 := Lib.hid (blk_keep HF5.out hk6 (by have := HFL.out; simp; omega))
            clear hr6 hk6 q0 q1 q2 q3 y0 y1 y2 y3
            cases q
            · have HCR := Lib.hid (HCELL.out w6 HK6.out)
              have HHP : Hid (headP T = some (4, x, v, Z2)) := HHD.out
              have HKZ := HK6
              have HXZ := HX6
              obtain ⟨⟨q0, q1, q2, q3⟩, y0, y1, y2, y3⟩ := four_facts8 HF6.out
              obtain ⟨⟨r0, r1, r2, r3⟩, s0, s1, s2, s3⟩ := four_facts8 HCR.out
              go_wp2_with fail
              have HR6 := heap_setCell_same _ R 0 _ _ (.int .i64 4) HCR.out
              have HR7 := heap_setCell_same _ R 1 _ _ (.slice none 0 0) HR6
              have HR8 := heap_setCell_same _ R 2 _ _ (.string ⟨x.toArray⟩) HR7
              have HR9 := heap_setCell_same _ R 3 _ _ (.string ⟨v.toArray⟩) HR8
              refine bodyPost_ret (results_cell_row rfl _ _ R _ #[.int .i64 4, .slice none 0 0, .string ⟨x.toArray⟩, .string ⟨v.toArray⟩] (0, 0) _ rfl HR9 Tryz.underlying26 rfl (by kernel_rfl)) rfl ?_
              have k9 : Keeps [R] (w6) _ := ((((Keeps.refl [R] (w6)).setCell (.inl (by simp)) (.int .i64 4) (p := ⟨R, 0, none⟩)).setCell (.inl (by simp)) (.slice none 0 0) (p := ⟨R, 1, none⟩)).setCell (.inl (by simp)) (.string ⟨x.toArray⟩) (p := ⟨R, 2, none⟩)).setCell (.inl (by simp)) (.string ⟨v.toArray⟩) (p := ⟨R, 3, none⟩)
              refine ⟨fun k s v' R' h9 => ?_, fun h9 => (by rw [HHP.out] at h9; cases h9), HEND.out _ _ HKZ.out k9⟩
              rw [HHP.out] at h9
              cases h9
              exact ⟨rfl, HXZ.out.keep k9 (by simpa using HGR.out.symm)⟩
            · have HF7 := Lib.hid (heap_setCell_same w6 F 0 _ _ (.int .i64 5) HF6.out)
              have HX7 : Hid (RstAt (w6.setCell ⟨F, 0, none⟩ (.int .i64 5)) g Z2) := HX6.out.keep (bs := [F]) ((Keeps.refl [F] w6).setCell (.inl (by simp)) _) (by have := HFL.out; simp; omega)
              have HK7 : Hid (Keeps [g] W1 (w6.setCell ⟨F, 0, none⟩ (.int .i64 5))) := HK6.out.setCell (.inr HFL.out.1) _
              obtain ⟨⟨q0, q1, q2, q3⟩, y0, y1, y2, y3⟩ := four_facts8 HF6.out
              obtain ⟨⟨u0, u1, u2, u3⟩, v0, v1, v2, v3⟩ := four_facts8 HF7.out
              have HCR7 := Lib.hid (HCELL.out _ HK7.out)
              obtain ⟨⟨r0, r1, r2, r3⟩, s0, s1, s2, s3⟩ := four_facts8 HCR7.out
              cases v with
              | nil =>
                have HF8 := Lib.hid (heap_setCell_same _ F 0 _ _ (.int .i64 6) HF7.out)
                have HX8 : Hid (RstAt ((w6.setCell ⟨F, 0, none⟩ (.int .i64 5)).setCell ⟨F, 0, none⟩ (.int .i64 6)) g Z2) := HX7.out.keep (bs := [F]) ((Keeps.refl [F] _).setCell (.inl (by simp)) _) (by have := HFL.out; simp; omega)
                have HK8 : Hid (Keeps [g] W1 ((w6.setCell ⟨F, 0, none⟩ (.int .i64 5)).setCell ⟨F, 0, none⟩ (.int .i64 6))) := HK7.out.setCell (.inr HFL.out.1) _
                obtain ⟨⟨a0, a1, a2, a3⟩, b0, b1, b2, b3⟩ := four_facts8 HF8.out
                have HCR := Lib.hid (HCELL.out _ HK8.out)
                obtain ⟨⟨e0, e1, e2, e3⟩, f0, f1, f2, f3⟩ := four_facts8 HCR.out
                have HHP : Hid (headP T = some (6, x, [], Z2)) := HHD.out
                have HKZ := HK8
                have HXZ := HX8
                go_wp2_with fail
                have HR6 := heap_setCell_same _ R 0 _ _ (.int .i64 6) HCR.out
                have HR7 := heap_setCell_same _ R 1 _ _ (.slice none 0 0) HR6
                have HR8 := heap_setCell_same _ R 2 _ _ (.string ⟨x.toArray⟩) HR7
                have HR9 := heap_setCell_same _ R 3 _ _ (.string ⟨([] : Txt).toArray⟩) HR8
                refine bodyPost_ret (results_cell_row rfl _ _ R _ #[.int .i64 6, .slice none 0 0, .string ⟨x.toArray⟩, .string ⟨([] : Txt).toArray⟩] (0, 0) _ rfl HR9 Tryz.underlying26 rfl (by kernel_rfl)) rfl ?_
                have k9 : Keeps [R] ((w6.setCell ⟨F, 0, none⟩ (.int .i64 5)).setCell ⟨F, 0, none⟩ (.int .i64 6)) _ := ((((Keeps.refl [R] ((w6.setCell ⟨F, 0, none⟩ (.int .i64 5)).setCell ⟨F, 0, none⟩ (.int .i64 6))).setCell (.inl (by simp)) (.int .i64 6) (p := ⟨R, 0, none⟩)).setCell (.inl (by simp)) (.slice none 0 0) (p := ⟨R, 1, none⟩)).setCell (.inl (by simp)) (.string ⟨x.toArray⟩) (p := ⟨R, 2, none⟩)).setCell (.inl (by simp)) (.string ⟨([] : Txt).toArray⟩) (p := ⟨R, 3, none⟩)
                refine ⟨fun k s v' R' h9 => ?_, fun h9 => (by rw [HHP.out] at h9; cases h9), HEND.out _ _ HKZ.out k9⟩
                rw [HHP.out] at h9
                cases h9
                exact ⟨rfl, HXZ.out.keep k9 (by simpa using HGR.out.symm)⟩
              | cons c cs =>
                have HCR := HCR7
                have HHP : Hid (headP T = some (5, x, c :: cs, Z2)) := HHD.out
                have HKZ := HK7
                have HXZ := HX7
                go_wp2_with fail
                have HR6 := heap_setCell_same _ R 0 _ _ (.int .i64 5) HCR.out
                have HR7 := heap_setCell_same _ R 1 _ _ (.slice none 0 0) HR6
                have HR8 := heap_setCell_same _ R 2 _ _ (.string ⟨x.toArray⟩) HR7
                have HR9 := heap_setCell_same _ R 3 _ _ (.string ⟨(c :: cs).toArray⟩) HR8
                refine bodyPost_ret (results_cell_row rfl _ _ R _ #[.int .i64 5, .slice none 0 0, .string ⟨x.toArray⟩, .string ⟨(c :: cs).toArray⟩] (0, 0) _ rfl HR9 Tryz.underlying26 rfl (by kernel_rfl)) rfl ?_
                have k9 : Keeps [R] (w6.setCell ⟨F, 0, none⟩ (.int .i64 5)) _ := ((((Keeps.refl [R] (w6.setCell ⟨F, 0, none⟩ (.int .i64 5))).setCell (.inl (by simp)) (.int .i64 5) (p := ⟨R, 0, none⟩)).setCell (.inl (by simp)) (.slice none 0 0) (p := ⟨R, 1, none⟩)).setCell (.inl (by simp)) (.string ⟨x.toArray⟩) (p := ⟨R, 2, none⟩)).setCell (.inl (by simp)) (.string ⟨(c :: cs).toArray⟩) (p := ⟨R, 3, none⟩)
                refine ⟨fun k s v' R' h9 => ?_, fun h9 => (by rw [HHP.out] at h9; cases h9), HEND.out _ _ HKZ.out k9⟩
                rw [HHP.out] at h9
                cases h9
                exact ⟨rfl, HXZ.out.keep k9 (by simpa using HGR.out.symm)⟩
    · obtain ⟨g1, g2, g3⟩ := HG.out wr HK.out
      rcases (by omega : k = 1 ∨ k = 2 ∨ k = 3) with rfl | rfl | rfl
      · have HC := Lib.hid (HH.out [38] (by decide) wr HX.out)
        have HSG := Lib.hid (fun (hy : begP [38] T = true) => head_sign (T := T) (k := 1) (by omega) (by omega) HNO.out hy)
        have HN2 := Lib.hid (fun (hy : begP [38] T = false) => sgn_more (T := T) (k := 1) HNO.out hy)
        obtain ⟨q, hq⟩ : ∃ q, begP [38] T = q := ⟨_, rfl⟩
        have HQ := Lib.hid hq
        rw [hq] at HC HSG HN2
        unfold tv at HC
        clear hq
        go_wp2_with fail
        refine HC.out.mono ?_
        rintro e w1 ⟨rfl, hr1, hk5⟩
        have HK1 : Hid (Keeps [g] W1 w1) := HK.out.trans hk5 (fun x hx => .inl hx)
        clear hk5
        cases q
        · rw [behP_no HQ.out] at hr1
          have HX1 := Lib.hid hr1
          clear hr1
          go_wp2_with fail
          go_roundw
          case rel => exact ⟨2, by rfl, by omega, by omega, HN2.out (by first | exact trivial | rfl), HX1.out, HK1.out⟩
          case measure => decide
        · rw [behP_yes HQ.out] at hr1
          have HX1 := Lib.hid hr1
          have HHP := Lib.hid (HSG.out (by first | exact trivial | rfl))
          clear hr1
          have HC0 := Lib.hid (HCELL.out w1 HK1.out)
          obtain ⟨⟨r0, r1, r2, r3⟩, s0, s1, s2, s3⟩ := four_facts8 HC0.out
          go_wp2_with fail
          have HR6 := heap_setCell_same _ R 0 _ _ (.int .i64 1) HC0.out
          have HR7 := heap_setCell_same _ R 1 _ _ (.slice none 0 0) HR6
          have HR8 := heap_setCell_same _ R 2 _ _ (.string ⟨#[]⟩) HR7
          have HR9 := heap_setCell_same _ R 3 _ _ (.string ⟨#[]⟩) HR8
          refine bodyPost_ret (results_cell_row rfl _ _ R _ #[.int .i64 1, .slice none 0 0, .string ⟨#[]⟩, .string ⟨#[]⟩] (0, 0) _ rfl HR9 Tryz.underlying26 rfl (by kernel_rfl)) rfl ?_
          have k9 : Keeps [R] w1 _ := ((((Keeps.refl [R] w1).setCell (.inl (by simp)) (.int .i64 1) (p := ⟨R, 0, none⟩)).setCell (.inl (by simp)) (.slice none 0 0) (p := ⟨R, 1, none⟩)).setCell (.inl (by simp)) (.string ⟨#[]⟩) (p := ⟨R, 2, none⟩)).setCell (.inl (by simp)) (.string ⟨#[]⟩) (p := ⟨R, 3, none⟩)
          refine ⟨fun k s v R' h9 => ?_, fun h9 => (by rw [HHP.out] at h9; cases h9), HEND.out _ _ HK1.out k9⟩
          rw [HHP.out] at h9
          cases h9
          exact ⟨rfl, HX1.out.keep k9 (by simpa using HGR.out.symm)⟩
      · have HC := Lib.hid (HH.out [124] (by decide) wr HX.out)
        have HSG := Lib.hid (fun (hy : begP [124] T = true) => head_sign (T := T) (k := 2) (by omega) (by omega) HNO.out hy)
        have HN2 := Lib.hid (fun (hy : begP [124] T = false) => sgn_more (T := T) (k := 2) HNO.out hy)
        obtain ⟨q, hq⟩ : ∃ q, begP [124] T = q := ⟨_, rfl⟩
        have HQ := Lib.hid hq
        rw [hq] at HC HSG HN2
        unfold tv at HC
        clear hq
        go_wp2_with fail
        refine HC.out.mono ?_
        rintro e w1 ⟨rfl, hr1, hk5⟩
        have HK1 : Hid (Keeps [g] W1 w1) := HK.out.trans hk5 (fun x hx => .inl hx)
        clear hk5
        cases q
        · rw [behP_no HQ.out] at hr1
          have HX1 := Lib.hid hr1
          clear hr1
          go_wp2_with fail
          go_roundw
          case rel => exact ⟨3, by rfl, by omega, by omega, HN2.out (by first | exact trivial | rfl), HX1.out, HK1.out⟩
          case measure => decide
        · rw [behP_yes HQ.out] at hr1
          have HX1 := Lib.hid hr1
          have HHP := Lib.hid (HSG.out (by first | exact trivial | rfl))
          clear hr1
          have HC0 := Lib.hid (HCELL.out w1 HK1.out)
          obtain ⟨⟨r0, r1, r2, r3⟩, s0, s1, s2, s3⟩ := four_facts8 HC0.out
          go_wp2_with fail
          have HR6 := heap_setCell_same _ R 0 _ _ (.int .i64 2) HC0.out
          have HR7 := heap_setCell_same _ R 1 _ _ (.slice none 0 0) HR6
          have HR8 := heap_setCell_same _ R 2 _ _ (.string ⟨#[]⟩) HR7
          have HR9 := heap_setCell_same _ R 3 _ _ (.string ⟨#[]⟩) HR8
          refine bodyPost_ret (results_cell_row rfl _ _ R _ #[.int .i64 2, .slice none 0 0, .string ⟨#[]⟩, .string ⟨#[]⟩] (0, 0) _ rfl HR9 Tryz.underlying26 rfl (by kernel_rfl)) rfl ?_
          have k9 : Keeps [R] w1 _ := ((((Keeps.refl [R] w1).setCell (.inl (by simp)) (.int .i64 2) (p := ⟨R, 0, none⟩)).setCell (.inl (by simp)) (.slice none 0 0) (p := ⟨R, 1, none⟩)).setCell (.inl (by simp)) (.string ⟨#[]⟩) (p := ⟨R, 2, none⟩)).setCell (.inl (by simp)) (.string ⟨#[]⟩) (p := ⟨R, 3, none⟩)
          refine ⟨fun k s v R' h9 => ?_, fun h9 => (by rw [HHP.out] at h9; cases h9), HEND.out _ _ HK1.out k9⟩
          rw [HHP.out] at h9
          cases h9
          exact ⟨rfl, HX1.out.keep k9 (by simpa using HGR.out.symm)⟩
      · have HC := Lib.hid (HH.out [33] (by decide) wr HX.out)
        have HSG := Lib.hid (fun (hy : begP [33] T = true) => head_sign (T := T) (k := 3) (by omega) (by omega) HNO.out hy)
        have HN2 := Lib.hid (fun (hy : begP [33] T = false) => sgn_more (T := T) (k := 3) HNO.out hy)
        obtain ⟨q, hq⟩ : ∃ q, begP [33] T = q := ⟨_, rfl⟩
        have HQ := Lib.hid hq
        rw [hq] at HC HSG HN2
        unfold tv at HC
        clear hq
        go_wp2_with fail
        refine HC.out.mono ?_
        rintro e w1 ⟨rfl, hr1, hk5⟩
        have HK1 : Hid (Keeps [g] W1 w1) := HK.out.trans hk5 (fun x hx => .inl hx)
        clear hk5
        cases q
        · rw [behP_no HQ.out] at hr1
          have HX1 := Lib.hid hr1
          clear hr1
          go_wp2_with fail
          go_roundw
          case rel => exact ⟨4, by rfl, by omega, by omega, HN2.out (by first | exact trivial | rfl), HX1.out, HK1.out⟩
          case measure => decide
        · rw [behP_yes HQ.out] at hr1
          have HX1 := Lib.hid hr1
          have HHP := Lib.hid (HSG.out (by first | exact trivial | rfl))
          clear hr1
          have HC0 := Lib.hid (HCELL.out w1 HK1.out)
          obtain ⟨⟨r0, r1, r2, r3⟩, s0, s1, s2, s3⟩ := four_facts8 HC0.out
          go_wp2_with fail
          have HR6 := heap_setCell_same _ R 0 _ _ (.int .i64 3) HC0.out
          have HR7 := heap_setCell_same _ R 1 _ _ (.slice none 0 0) HR6
          have HR8 := heap_setCell_same _ R 2 _ _ (.string ⟨#[]⟩) HR7
          have HR9 := heap_setCell_same _ R 3 _ _ (.string ⟨#[]⟩) HR8
          refine bodyPost_ret (results_cell_row rfl _ _ R _ #[.int .i64 3, .slice none 0 0, .string ⟨#[]⟩, .string ⟨#[]⟩] (0, 0) _ rfl HR9 Tryz.underlying26 rfl (by kernel_rfl)) rfl ?_
          have k9 : Keeps [R] w1 _ := ((((Keeps.refl [R] w1).setCell (.inl (by simp)) (.int .i64 3) (p := ⟨R, 0, none⟩)).setCell (.inl (by simp)) (.slice none 0 0) (p := ⟨R, 1, none⟩)).setCell (.inl (by simp)) (.string ⟨#[]⟩) (p := ⟨R, 2, none⟩)).setCell (.inl (by simp)) (.string ⟨#[]⟩) (p := ⟨R, 3, none⟩)
          refine ⟨fun k s v R' h9 => ?_, fun h9 => (by rw [HHP.out] at h9; cases h9), HEND.out _ _ HK1.out k9⟩
          rw [HHP.out] at h9
          cases h9
          exact ⟨rfl, HX1.out.keep k9 (by simpa using HGR.out.symm)⟩
end Go.Proofs.YtbfebljahjmjfaaGreatDoor
/- filter: what filter a text says, as words. -/
namespace Go.Proofs.YtbfebljahjmjfaaGreatDoor
open Go.RowKit Go.Shelf
set_option linter.unusedVariables false
set_option linter.unusedSimpArgs false
set_option maxRecDepth 100000

mutual
/-- The filter that a text begins with, how many are passed then, what is left. -/
def rdF : Nat → Nat → Nat → Txt → Option (FV × Nat × Txt)
  | 0, _, _, _ => none
  | f + 1, d, m, T => if m < 200 ∧ d ≤ 16 then (if begP [40] T = true then (match headP (T.drop 1) with
      | none => none
      | some (k, s, v, R) => match (if k ≤ 3 then rdL f (d + 1) (m + 1) R else some ([], m + 1, R)) with
        | none => none
        | some (l, n, R2) => if begP [41] R2 = true then some (.mk k l s v, n, R2.drop 1) else none) else none) else none
def rdL : Nat → Nat → Nat → Txt → Option (List FV × Nat × Txt)
  | 0, _, _, _ => none
  | f + 1, d, m, T => if begP [40] T = true then (match rdF f d m T with
      | none => none
      | some (t, n, R) => match rdL f d n R with
        | none => none
        | some (l, n2, R2) => some (t :: l, n2, R2)) else some ([], m, T)
end
/-- What a whole text says. -/
def rdT (T : Txt) : Option FV := match rdF 402 1 0 T with
  | some (t, _, []) => some t
  | _ => none
theorem plnV_len : ∀ (f : Nat) (T v : Txt), plnV f T = some v → v.length ≤ T.length
  | _, [], v, h => by
    cases v with
    | nil => simp
    | cons a b => unfold plnV at h; cases h
  | 0, c :: l, v, h => by unfold plnV at h; cases h
  | f + 1, c :: l, v, h => by
    rw [plnV_cons] at h
    split at h
    · split at h
      · obtain ⟨n, hn, h⟩ := Option.bind_eq_some_iff.1 h
        obtain ⟨u, hu, rfl⟩ := Option.map_eq_some_iff.1 h
        have := plnV_len f _ u hu
        simp at this ⊢
        omega
      · cases h
    · split at h
      · obtain ⟨u, hu, rfl⟩ := Option.map_eq_some_iff.1 h
        have := plnV_len f _ u hu
        simp
        omega
      · cases h
theorem headP_facts {T : Txt} {k : Int} {s v R : Txt} (h : headP T = some (k, s, v, R)) : 1 ≤ k ∧ k ≤ 6 ∧ s.length ≤ T.length ∧ v.length ≤ T.length ∧ R.length ≤ T.length := by
  unfold headP at h
  split at h
  · cases h; simp
  · split at h
    · cases h; simp
    · split at h
      · cases h; simp
      · split at h
        · cases h
        · split at h
          · cases h
          · split at h
            · cases h
            · rename_i x1 n hn x2 m hm x3 u hu
              injection h with h
              injection h with h1 h
              injection h with h2 h
              injection h with h3 h
              subst h1 h2 h3 h
              have h4 := plnV_len _ _ _ hu
              have h5 := behP_len [42] (((T.drop n).drop 1).drop m)
              simp at h4 h5 ⊢
              refine ⟨?_, ?_, by omega, by omega, by omega⟩ <;> (repeat (split <;> try decide))
mutual
theorem rdF_facts : ∀ (f d m : Nat) (T : Txt) (t : FV) (n : Nat) (R : Txt), rdF f d m T = some (t, n, R) → m < 200 ∧ d ≤ 16 ∧ m + 1 ≤ n ∧ n ≤ 200 ∧ R.length ≤ T.length
  | 0, d, m, T, t, n, R, h => by unfold rdF at h; cases h
  | f + 1, d, m, T, t, n, R, h => by
    unfold rdF at h
    split at h
    · rename_i hmd
      split at h
      · split at h
        · cases h
        · rename_i k s v R1 hh
          split at h
          · cases h
          · rename_i l n1 R2 hl
            split at h
            · injection h with h
              injection h with h1 h
              injection h with h2 h
              subst h1 h2 h
              have h1 := (headP_facts hh).2.2.2.2
              split at hl
              · have h2 := rdL_facts f (d + 1) (m + 1) R1 l n1 R2 (by omega) hl
                simp at h1 ⊢
                omega
              · cases hl
                simp at h1 ⊢
                omega
            · cases h
      · cases h
    · cases h
theorem rdL_facts : ∀ (f d m : Nat) (T : Txt) (l : List FV) (n : Nat) (R : Txt), m ≤ 200 → rdL f d m T = some (l, n, R) → m ≤ n ∧ n ≤ 200 ∧ R.length ≤ T.length
  | 0, d, m, T, l, n, R, hm, h => by unfold rdL at h; cases h
  | f + 1, d, m, T, l, n, R, hm, h => by
    unfold rdL at h
    split at h
    · split at h
      · cases h
      · rename_i t n1 R1 h1
        split at h
        · cases h
        · rename_i l2 n2 R2 h2
          injection h with h
          injection h with e1 h
          injection h with e2 h
          subst e1 e2 h
          have h3 := rdF_facts f d m T t n1 R1 h1
          have h4 := rdL_facts f d n1 R1 l2 n2 R2 (by omega) h2
          omega
    · cases h; omega
end
/-- A list under way. -/
def RdI (f0 d m0 : Nat) (R0 : Txt) (l : List FV) (n : Nat) (R : Txt) : Prop := ∃ f, 2 * (201 - n) + 1 ≤ f ∧ f ≤ f0 ∧ rdL f0 d m0 R0 = (rdL f d n R).map fun x => (l ++ x.1, x.2.1, x.2.2)
theorem RdI.start {f0 d m0 : Nat} {R0 : Txt} (h : 2 * (201 - m0) + 1 ≤ f0) : RdI f0 d m0 R0 [] m0 R0 := ⟨f0, h, Nat.le_refl _, by cases rdL f0 d m0 R0 <;> simp⟩
theorem RdI.fin {f0 d m0 n : Nat} {R0 R : Txt} {l : List FV} (h : RdI f0 d m0 R0 l n R) (hb : begP [40] R = false) : rdL f0 d m0 R0 = some (l, n, R) := by
  obtain ⟨f, h1, _, h2⟩ := h
  rw [h2]
  cases f with
  | zero => omega
  | succ f => unfold rdL; rw [if_neg (by rw [hb]; simp)]; simp
/-- The next one: with what fuel it is read. -/
theorem RdI.next {f0 d m0 n : Nat} {R0 R : Txt} {l : List FV} (h : RdI f0 d m0 R0 l n R) (hb : begP [40] R = true) (hn : n ≤ 200) : ∃ f, f < f0 ∧ 2 * (201 - n) ≤ f ∧ (rdF f d n R = none → rdL f0 d m0 R0 = none) ∧ (∀ t n1 R1, rdF f d n R = some (t, n1, R1) → RdI f0 d m0 R0 (l ++ [t]) n1 R1) := by
  obtain ⟨f, h1, h3, h2⟩ := h
  cases f with
  | zero => omega
  | succ f =>
    refine ⟨f, by omega, by omega, fun h4 => ?_, fun t n1 R1 h4 => ?_⟩
    · rw [h2]; unfold rdL; rw [if_pos hb, h4]; rfl
    · have h5 := rdF_facts _ _ _ _ _ _ _ h4
      refine ⟨f, by omega, by omega, ?_⟩
      rw [h2]
      conv => lhs; unfold rdL
      rw [if_pos hb, h4]
      dsimp only
      cases rdL f d n1 R1 with
      | none => rfl
      | some x => obtain ⟨a, b, c⟩ := x; simp
theorem rdF_off {f d m : Nat} {T : Txt} (h : ¬ (m < 200 ∧ d ≤ 16)) : rdF f d m T = none := by
  cases f with
  | zero => unfold rdF; rfl
  | succ f => unfold rdF; rw [if_neg h]
theorem rdF_closed {f d m : Nat} {T : Txt} (h : begP [40] T = false) : rdF f d m T = none := by
  cases f with
  | zero => unfold rdF; rfl
  | succ f =>
    unfold rdF
    split
    · rw [if_neg (by rw [h]; simp)]
    · rfl
theorem rdF_nohead {f d m : Nat} {T : Txt} (h : headP (T.drop 1) = none) : rdF f d m T = none := by
  cases f with
  | zero => unfold rdF; rfl
  | succ f =>
    unfold rdF
    split
    · split
      · rw [h]
      · rfl
    · rfl
theorem rdF_in {f d m : Nat} {T : Txt} {k : Int} {s v R : Txt} (h1 : m < 200 ∧ d ≤ 16) (h2 : begP [40] T = true) (h3 : headP (T.drop 1) = some (k, s, v, R)) : rdF (f + 1) d m T = match (if k ≤ 3 then rdL f (d + 1) (m + 1) R else some ([], m + 1, R)) with
    | none => none
    | some (l, n, R2) => if begP [41] R2 = true then some (.mk k l s v, n, R2.drop 1) else none := by
  conv => lhs; unfold rdF
  rw [if_pos h1, if_pos h2, h3]
end Go.Proofs.YtbfebljahjmjfaaGreatDoor
/- filter: a Value that stands in a text, as the document reads it; that it is the program's. -/
namespace Go.Proofs.YtbfebljahjmjfaaGreatDoor
open Go.RowKit Go.Shelf
set_option linter.unusedVariables false
set_option linter.unusedSimpArgs false
set_option maxRecDepth 100000

/-- The Value that a text begins with, and what is left, from ) or * on. -/
def valR : Nat → Txt → Option (Txt × Txt)
  | _, [] => none
  | 0, _ :: _ => none
  | f + 1, c :: l => if c = 41 ∨ c = 42 then some ([], c :: l) else if c = 40 ∨ c.toNat < 32 ∨ 126 < c.toNat then none else if c = 92 then (match l with
      | a :: b :: r => (match dig1 a.toNat, dig1 b.toNat with
        | some x, some y => (valR f r).map (fun p => (UInt8.ofNat (16 * x + y) :: p.1, p.2))
        | _, _ => none)
      | _ => none) else (valR f l).map (fun p => (c :: p.1, p.2))
theorem plnV_fuel : ∀ (f : Nat) (T : Txt), T.length ≤ f → plnV f T = plnV T.length T
  | f, [], _ => by cases f <;> simp [plnV]
  | 0, c :: l, h => by simp at h
  | f + 1, c :: l, h => by
    simp only [List.length_cons] at h ⊢
    rw [plnV_cons, plnV_cons, plnV_fuel f l (by omega), plnV_fuel f (l.drop 2) (by simp; omega), plnV_fuel l.length (l.drop 2) (by simp)]
theorem valR_fuel : ∀ (f : Nat) (T : Txt), T.length ≤ f → valR f T = valR T.length T
  | f, [], _ => by cases f <;> simp [valR]
  | 0, c :: l, h => by simp at h
  | f + 1, c :: l, h => by
    simp only [List.length_cons] at h ⊢
    unfold valR
    rw [valR_fuel f l (by omega)]
    split
    · rfl
    · split
      · rfl
      · split
        · match l, h with
          | [], _ => rfl
          | [a], _ => rfl
          | a :: b :: r, h =>
            simp only [List.length_cons] at h ⊢
            rw [valR_fuel f r (by omega), valR_fuel (r.length + 1 + 1) r (by omega)]
        · rfl
theorem hexN_pair (a b : UInt8) : hexN [a, b] = match dig1 a.toNat, dig1 b.toNat with
    | some x, some y => some (16 * x + y)
    | _, _ => none := by
  unfold hexN
  simp only [List.foldl_cons, List.foldl_nil]
  cases dig1 a.toNat with
  | none => simp
  | some x =>
    cases dig1 b.toNat with
    | none => simp
    | some y => simp
theorem dig_sign (c : UInt8) (h : c = 40 ∨ c = 41 ∨ c = 42) : dig1 c.toNat = none := by
  rcases h with rfl | rfl | rfl <;> rfl
theorem plain_is (c : UInt8) (h1 : ¬ (c = 41 ∨ c = 42)) (h2 : ¬ (c = 40 ∨ c.toNat < 32 ∨ 126 < c.toNat)) (h3 : c ≠ 92) : plainP c = true := by
  have h : ∀ n : Fin 256, ¬ (UInt8.ofNat n.val = 41 ∨ UInt8.ofNat n.val = 42) → ¬ (UInt8.ofNat n.val = 40 ∨ (UInt8.ofNat n.val).toNat < 32 ∨ 126 < (UInt8.ofNat n.val).toNat) → UInt8.ofNat n.val ≠ 92 → plainP (UInt8.ofNat n.val) = true := by decide +kernel
  have := h ⟨c.toNat, c.toNat_lt⟩
  simp only [UInt8.ofNat_toNat] at this
  exact this h1 h2 h3
theorem plain_no (c : UInt8) (h2 : c.toNat < 32 ∨ 126 < c.toNat) : plainP c = false := by
  have h : ∀ n : Fin 256, ((UInt8.ofNat n.val).toNat < 32 ∨ 126 < (UInt8.ofNat n.val).toNat) → plainP (UInt8.ofNat n.val) = false := by decide +kernel
  have := h ⟨c.toNat, c.toNat_lt⟩
  simp only [UInt8.ofNat_toNat] at this
  exact this h2
/-- What the program makes of the same text. -/
def valQ (U : Txt) : Option (Txt × Txt) := match untP [40, 41, 42] U with
  | none => none
  | some m => match plnV (U.take m).length (U.take m) with
    | none => none
    | some v => if begP [40] (U.drop m) = true then none else some (v, U.drop m)
theorem unt_out (c : UInt8) (l : Txt) (h1 : ¬ (c = 41 ∨ c = 42)) (h2 : c ≠ 40) : untP [40, 41, 42] (c :: l) = (untP [40, 41, 42] l).map (· + 1) := by
  conv => lhs; unfold untP
  rw [if_neg]
  intro h
  simp at h
  rcases h with h | h | h
  · exact h2 h
  · exact h1 (.inl h)
  · exact h1 (.inr h)
theorem unt_in (c : UInt8) (l : Txt) (h : c = 40 ∨ c = 41 ∨ c = 42) : untP [40, 41, 42] (c :: l) = some 0 := by
  unfold untP
  rw [if_pos]
  rcases h with rfl | rfl | rfl <;> decide
theorem valR_is : ∀ (n : Nat) (U : Txt), U.length ≤ n → valR U.length U = valQ U
  | _, [], _ => by simp [valR, valQ, untP]
  | 0, c :: l, h => by simp at h
  | n + 1, c :: l, h => by
    simp only [List.length_cons] at h
    simp only [List.length_cons]
    unfold valR
    split
    · rename_i hc
      unfold valQ
      rw [unt_in c l (.inr hc)]
      simp only [List.take_zero, List.length_nil, List.drop_zero]
      have hb : begP [40] (c :: l) = false := by
        unfold begP
        rcases hc with rfl | rfl <;> simp
      simp [plnV, hb]
    · rename_i hc
      split
      · rename_i h2
        by_cases h40 : c = 40
        · subst h40
          unfold valQ
          rw [unt_in 40 l (.inl rfl)]
          simp [plnV, begP]
        · have hp := plain_no c (by rcases h2 with h2 | h2 | h2; exact absurd h2 h40; exact .inl h2; exact .inr h2)
          unfold valQ
          rw [unt_out c l hc h40]
          cases untP [40, 41, 42] l with
          | none => rfl
          | some m =>
            simp only [Option.map_some, List.take_succ_cons, List.length_cons]
            have h92 : c ≠ 92 := by rintro rfl; simp at h2
            rw [plnV_cons, if_neg h92, if_neg (by rw [hp]; simp)]
      · rename_i h2
        have h40 : c ≠ 40 := fun h => h2 (.inl h)
        split
        · rename_i h92
          subst h92
          unfold valQ
          rw [unt_out 92 l hc h40]
          match l, h with
          | [], _ => rfl
          | [a], _ =>
            by_cases ha : a = 40 ∨ a = 41 ∨ a = 42
            · rw [unt_in a [] ha]
              simp [plnV]
            · rw [unt_out a [] (fun h => ha (.inr h)) (fun h => ha (.inl h))]
              simp [untP]
          | a :: b :: r, h =>
            simp only [List.length_cons] at h
            have IH := valR_is n r (by omega)
            dsimp only
            by_cases ha : a = 40 ∨ a = 41 ∨ a = 42
            · rw [unt_in a _ ha, dig_sign a ha]
              simp [plnV]
            · rw [unt_out a _ (fun h => ha (.inr h)) (fun h => ha (.inl h))]
              by_cases hb : b = 40 ∨ b = 41 ∨ b = 42
              · rw [unt_in b _ hb, dig_sign b hb]
                cases dig1 a.toNat <;> simp [plnV]
              · rw [unt_out b _ (fun h => hb (.inr h)) (fun h => hb (.inl h)), valR_fuel (a :: b :: r).length r (by simp only [List.length_cons]; omega), IH]
                unfold valQ
                cases untP [40, 41, 42] r with
                | none => cases dig1 a.toNat <;> cases dig1 b.toNat <;> rfl
                | some m =>
                  simp only [Option.map_some, List.take_succ_cons, List.length_cons, List.drop_succ_cons]
                  rw [plnV_cons, if_pos rfl, if_pos (by simp), show (a :: b :: r.take m).take 2 = [a, b] from rfl, hexN_pair, show (a :: b :: r.take m).drop 2 = r.take m from rfl, plnV_fuel ((r.take m).length + 2) (r.take m) (by omega)]
                  cases dig1 a.toNat with
                  | none => rfl
                  | some x =>
                    cases dig1 b.toNat with
                    | none => rfl
                    | some y =>
                      dsimp only [Option.bind_some]
                      cases plnV (r.take m).length (r.take m) with
                      | none => rfl
                      | some v =>
                        simp only [Option.map_some]
                        split <;> rfl
        · rename_i h92
          have hp := plain_is c hc h2 h92
          have IH := valR_is n l (by omega)
          rw [IH]
          unfold valQ
          rw [unt_out c l hc h40]
          cases untP [40, 41, 42] l with
          | none => rfl
          | some m =>
            simp only [Option.map_some, List.take_succ_cons, List.length_cons, List.drop_succ_cons]
            rw [plnV_cons, if_neg h92, if_pos hp]
            cases plnV (l.take m).length (l.take m) with
            | none => rfl
            | some v =>
              simp only [Option.map_some]
              split <;> rfl
end Go.Proofs.YtbfebljahjmjfaaGreatDoor
/- filter: the document's reading of a text, as words. -/
namespace Go.Proofs.YtbfebljahjmjfaaGreatDoor
open Go.RowKit Go.Shelf
set_option linter.unusedVariables false
set_option linter.unusedSimpArgs false
set_option maxRecDepth 100000

/-- Which sign a text begins with; 0: none. -/
def sgnR (U : Txt) : Nat := if begP [38] U = true then 1 else if begP [124] U = true then 2 else if begP [33] U = true then 3 else 0
/-- A name, '=' and what is behind it: a kind, a name, a value, what is left. -/
def leafR (U : Txt) : Option (Nat × Txt × Txt × Txt) := match untP [61] U with
  | none => none
  | some n => match valR (U.drop (n + 1)).length (U.drop (n + 1)) with
    | none => none
    | some (v, R) => if begP [42] R = true then some (if v = [] then 6 else 5, smallL (U.take n), v, R.drop 1) else some (4, smallL (U.take n), v, R)
/-- A filter, shut. -/
def shutR (t : FV) (R : Txt) : Option (FV × Txt) := if begP [41] R = true ∧ aloneF t = true then some (t, R.drop 1) else none
mutual
/-- The filter that a text begins with, and what is left. -/
def oneR : Nat → Nat → Txt → Option (FV × Txt)
  | 0, _, _ => none
  | f + 1, d, T => if d ≤ 16 ∧ 2 ≤ T.length ∧ begP [40] T = true then (if sgnR (T.drop 1) = 0 then (match leafR (T.drop 1) with
      | none => none
      | some (k, s, v, R) => shutR (.mk k [] s v) R) else (match manyR f d 0 (T.drop 2) with
      | none => none
      | some (l, R) => shutR (.mk (sgnR (T.drop 1) : Nat) l [] []) R)) else none
/-- Filters, one behind the other; m stand already. -/
def manyR : Nat → Nat → Nat → Txt → Option (List FV × Txt)
  | 0, _, _, _ => none
  | f + 1, d, m, T => if begP [40] T = true then (match oneR f (d + 1) T with
      | none => none
      | some (x, R) => if 200 < m then none else (match manyR f d (m + 1) R with
        | none => none
        | some (l, R2) => some (x :: l, R2))) else some ([], T)
end
/-- What a whole text says. -/
def parseR (T : Txt) : Option FV := match oneR (2 * T.length + 2) 1 T with
  | some (t, []) => if rightF t = true then some t else none
  | _ => none
theorem shutR_len {t x : FV} {R R2 : Txt} (h : shutR t R = some (x, R2)) : R2.length ≤ R.length ∧ x = t := by
  unfold shutR at h
  split at h
  · injection h with h; injection h with h1 h2; subst h1 h2; exact ⟨by simp, rfl⟩
  · cases h
theorem valR_len : ∀ (f : Nat) (T v R : Txt), valR f T = some (v, R) → R.length ≤ T.length
  | f, [], v, R, h => by cases f <;> simp [valR] at h
  | 0, c :: l, v, R, h => by simp [valR] at h
  | f + 1, c :: l, v, R, h => by
    unfold valR at h
    split at h
    · injection h with h; injection h with h1 h2; subst h2; exact Nat.le_refl _
    · split at h
      · cases h
      · split at h
        · split at h
          · split at h
            · obtain ⟨p, hp, h⟩ := Option.map_eq_some_iff.1 h
              injection h with h1 h2
              subst h2
              have := valR_len f _ p.1 p.2 hp
              simp only [List.length_cons]
              omega
            · cases h
          · cases h
        · obtain ⟨p, hp, h⟩ := Option.map_eq_some_iff.1 h
          injection h with h1 h2
          subst h2
          have := valR_len f _ p.1 p.2 hp
          simp only [List.length_cons]
          omega
theorem leafR_len {U s v R : Txt} {k : Nat} (h : leafR U = some (k, s, v, R)) : R.length ≤ U.length := by
  unfold leafR at h
  split at h
  · cases h
  · split at h
    · cases h
    · rename_i n hn v2 R2 hv
      have := valR_len _ _ _ _ hv
      simp only [List.length_drop] at this
      split at h <;> (injection h with h; injection h with h1 h; injection h with h2 h; injection h with h3 h; subst h; simp; omega)
mutual
theorem oneR_len : ∀ (f d : Nat) (T R : Txt) (t : FV), oneR f d T = some (t, R) → R.length + 1 ≤ T.length
  | 0, _, _, _, _, h => by simp [oneR] at h
  | f + 1, d, T, R, t, h => by
    unfold oneR at h
    split at h
    · rename_i hc
      split at h
      · split at h
        · cases h
        · rename_i hl
          have h1 := leafR_len hl
          have h2 := (shutR_len h).1
          simp only [List.length_drop] at h1
          omega
      · split at h
        · cases h
        · rename_i hl
          have h1 := manyR_len f d 0 _ _ _ hl
          have h2 := (shutR_len h).1
          simp only [List.length_drop] at h1
          omega
    · cases h
theorem manyR_len : ∀ (f d m : Nat) (T R : Txt) (l : List FV), manyR f d m T = some (l, R) → R.length ≤ T.length
  | 0, _, _, _, _, _, h => by simp [manyR] at h
  | f + 1, d, m, T, R, l, h => by
    unfold manyR at h
    split at h
    · split at h
      · cases h
      · rename_i x R1 ho
        have h1 := oneR_len f (d + 1) T R1 x ho
        split at h
        · cases h
        · split at h
          · cases h
          · rename_i l2 R2 hm
            have h2 := manyR_len f d (m + 1) R1 R2 l2 hm
            injection h with h; injection h with h3 h4; subst h4
            omega
    · injection h with h; injection h with h3 h4; subst h4; exact Nat.le_refl _
end
end Go.Proofs.YtbfebljahjmjfaaGreatDoor
/- filter: the document's reading of a text as words: enough fuel; a leaf is the program's. -/
namespace Go.Proofs.YtbfebljahjmjfaaGreatDoor
open Go.RowKit Go.Shelf
set_option linter.unusedVariables false
set_option linter.unusedSimpArgs false
set_option maxRecDepth 100000

theorem oneR_none (f d : Nat) (T : Txt) (h : T.length < 2) : oneR f d T = none := by
  cases f with
  | zero => rfl
  | succ f =>
    unfold oneR
    rw [if_neg (by omega)]
mutual
theorem oneR_fuel : ∀ (f g d : Nat) (T : Txt), 2 * T.length ≤ f → 2 * T.length ≤ g → oneR f d T = oneR g d T
  | 0, g, d, T, hf, hg => by rw [oneR_none 0 d T (by omega), oneR_none g d T (by omega)]
  | f + 1, 0, d, T, hf, hg => by rw [oneR_none (f + 1) d T (by omega), oneR_none 0 d T (by omega)]
  | f + 1, g + 1, d, T, hf, hg => by
    rcases Nat.lt_or_ge T.length 2 with h | h
    · rw [oneR_none _ d T h, oneR_none _ d T h]
    · unfold oneR
      rw [manyR_fuel f g d 0 (T.drop 2) (by simp; omega) (by simp; omega)]
theorem manyR_fuel : ∀ (f g d m : Nat) (T : Txt), 2 * T.length + 1 ≤ f → 2 * T.length + 1 ≤ g → manyR f d m T = manyR g d m T
  | 0, g, d, m, T, hf, hg => by omega
  | f + 1, 0, d, m, T, hf, hg => by omega
  | f + 1, g + 1, d, m, T, hf, hg => by
    unfold manyR
    rw [oneR_fuel f g (d + 1) T (by omega) (by omega)]
    split
    · cases ho : oneR g (d + 1) T with
      | none => rfl
      | some p =>
        obtain ⟨x, R⟩ := p
        have h1 := oneR_len _ _ _ _ _ ho
        dsimp only
        rw [manyR_fuel f g d (m + 1) R (by omega) (by omega)]
    · rfl
end
theorem beg_one (c : UInt8) : ∀ X : Txt, begP [c] X = true ↔ ∃ l, X = c :: l
  | [] => by simp [begP]
  | a :: l => by simp [begP]
theorem leaf_head {U : Txt} (h : sgnR U = 0) : (match leafR U with
      | none => none
      | some (k, s, v, R) => if begP [41] R = true then some ((k : Int), s, v, R.drop 1) else none) = (match headP U with
      | none => none
      | some (k, s, v, R) => if begP [41] R = true then some (k, smallL s, v, R.drop 1) else none) := by
  have h3 : begP [38] U = false ∧ begP [124] U = false ∧ begP [33] U = false := by
    unfold sgnR at h
    split at h
    · cases h
    · split at h
      · cases h
      · split at h
        · cases h
        · rename_i a b c
          exact ⟨by simpa using a, by simpa using b, by simpa using c⟩
  rw [headP_not h3.1 h3.2.1 h3.2.2]
  unfold leafR
  cases hn : untP [61] U with
  | none => rfl
  | some n =>
    dsimp only
    rw [List.drop_drop, valR_is _ _ (Nat.le_refl _)]
    unfold valQ
    generalize U.drop (n + 1) = W
    cases hm : untP [40, 41, 42] W with
    | none => rfl
    | some m =>
      dsimp only
      cases plnV (W.take m).length (W.take m) with
      | none => rfl
      | some v =>
        dsimp only
        generalize W.drop m = X
        by_cases h40 : begP [40] X = true
        · obtain ⟨l, rfl⟩ := (beg_one 40 X).1 h40
          rw [if_pos h40]
          have e1 : begP [42] ((40 : UInt8) :: l) = false := by simp [begP]
          have e2 : begP [41] ((40 : UInt8) :: l) = false := by simp [begP]
          have e3 : behP [42] ((40 : UInt8) :: l) = 40 :: l := by simp [behP, e1]
          dsimp only
          rw [e3, e2]
          simp
        · rw [if_neg h40]
          dsimp only
          by_cases h42 : begP [42] X = true
          · have e3 : behP [42] X = X.drop 1 := by simp [behP, h42]
            rw [if_pos h42, if_pos h42, e3]
            dsimp only
            split
            · split <;> rfl
            · rfl
          · have e3 : behP [42] X = X := by simp [behP, h42]
            rw [if_neg h42, if_neg h42, e3]
            rfl
end Go.Proofs.YtbfebljahjmjfaaGreatDoor
/- filter: what the program reads off a text the document reads. -/
namespace Go.Proofs.YtbfebljahjmjfaaGreatDoor
open Go.RowKit Go.Shelf
set_option linter.unusedVariables false
set_option linter.unusedSimpArgs false
set_option maxRecDepth 100000

theorem head_sgn {U : Txt} (h : ¬ sgnR U = 0) : headP U = some ((sgnR U : Int), [], [], U.drop 1) ∧ sgnR U ≤ 3 := by
  unfold headP
  revert h
  unfold sgnR
  split
  · intro _; exact ⟨rfl, by decide⟩
  · split
    · intro _; exact ⟨rfl, by decide⟩
    · split
      · intro _; exact ⟨rfl, by decide⟩
      · intro h; exact absurd rfl h
theorem sgn_no {U : Txt} (h : sgnR U = 0) : begP [38] U = false ∧ begP [124] U = false ∧ begP [33] U = false := by
  unfold sgnR at h
  split at h
  · cases h
  · split at h
    · cases h
    · split at h
      · cases h
      · rename_i a b c
        exact ⟨by simpa using a, by simpa using b, by simpa using c⟩
theorem head_leafk {U s v R : Txt} {k : Int} (h : sgnR U = 0) (hh : headP U = some (k, s, v, R)) : ¬ k ≤ 3 := by
  have h3 := sgn_no h
  rw [headP_not h3.1 h3.2.1 h3.2.2] at hh
  split at hh
  · cases hh
  · split at hh
    · cases hh
    · split at hh
      · cases hh
      · injection hh with hh
        injection hh with hh
        subst hh
        split
        · split <;> decide
        · decide
theorem leaf_to {U s v R : Txt} {k : Int} (h : sgnR U = 0) (hh : headP U = some (k, s, v, R)) (hR : begP [41] R = true) : ∃ (q : Nat) (X : Txt), leafR U = some (q, smallL s, v, X) ∧ (q : Int) = k ∧ begP [41] X = true ∧ X.drop 1 = R.drop 1 := by
  have e := leaf_head h
  rw [hh] at e
  dsimp only at e
  rw [if_pos hR] at e
  cases hl : leafR U with
  | none => rw [hl] at e; cases e
  | some p =>
    obtain ⟨q, s2, v2, X⟩ := p
    rw [hl] at e
    dsimp only at e
    split at e
    · rename_i hX
      injection e with e; injection e with e1 e; injection e with e2 e; injection e with e3 e4
      subst e2 e3
      exact ⟨q, X, rfl, e1, hX, e4⟩
    · cases e
theorem leaf_from {U s v X : Txt} {q : Nat} (h : sgnR U = 0) (hl : leafR U = some (q, s, v, X)) (hX : begP [41] X = true) : ∃ (z R : Txt), headP U = some ((q : Int), z, v, R) ∧ smallL z = s ∧ begP [41] R = true ∧ R.drop 1 = X.drop 1 := by
  have e := leaf_head h
  rw [hl] at e
  dsimp only at e
  rw [if_pos hX] at e
  cases hh : headP U with
  | none => rw [hh] at e; cases e
  | some p =>
    obtain ⟨k, z, v2, R⟩ := p
    rw [hh] at e
    dsimp only at e
    split at e
    · rename_i hR
      injection e with e; injection e with e1 e; injection e with e2 e; injection e with e3 e4
      subst e1 e2 e3
      exact ⟨z, R, rfl, rfl, hR, e4.symm⟩
    · cases e
theorem thru_up {d m n : Nat} {k : Int} {l : List FV} {s v : Txt} (h : thruF aloneF d m (.mk k l s v) = some n) : m < 200 ∧ d ≤ 16 ∧ thruL aloneF (d + 1) (m + 1) l = some n ∧ aloneF (.mk k l s v) = true := by
  unfold thruF at h
  split at h
  · rename_i hc
    split at h
    · cases h
    · rename_i n2 hl
      split at h
      · rename_i ha
        injection h with h
        subst h
        exact ⟨hc.1, hc.2, hl, ha⟩
      · cases h
  · cases h
theorem begP_two {T : Txt} (h : begP [40] T = true) (h2 : headP (T.drop 1) ≠ none) : 2 ≤ T.length := by
  obtain ⟨l, rfl⟩ := (beg_one 40 T).1 h
  cases l with
  | nil => exact absurd (by simp [headP, begP, untP]) h2
  | cons a b => simp
theorem alone_low2 : ∀ t : FV, aloneF (lowF t) = aloneF t
  | .mk k l s v => by
    simp only [lowF, aloneF_is, alone_low]
    rw [show (lowFL l).length = l.length by rw [lowFL_map, List.length_map]]
theorem shut_yes {t : FV} {R : Txt} (h : begP [41] R = true) (ha : aloneF t = true) : shutR t R = some (t, R.drop 1) := by
  unfold shutR
  rw [if_pos ⟨h, ha⟩]
mutual
theorem one_of_rd : ∀ (f d m : Nat) (T : Txt) (t : FV) (n : Nat) (R : Txt) (n2 : Nat), rdF f d m T = some (t, n, R) → thruF aloneF d m t = some n2 → n2 = n ∧ ∀ g, 2 * T.length ≤ g → oneR g d T = some (lowF t, R)
  | 0, d, m, T, t, n, R, n2, h, ht => by unfold rdF at h; cases h
  | f + 1, d, m, T, t, n, R, n2, h, ht => by
    unfold rdF at h
    split at h
    · rename_i hc
      split at h
      · rename_i h40
        split at h
        · cases h
        · rename_i k s v R1 hh
          have hl2 := begP_two h40 (by rw [hh]; simp)
          split at h
          · cases h
          · rename_i l n3 R2 hl
            split at h
            · rename_i h41
              injection h with h; injection h with h1 h; injection h with h2 h3
              subst h1 h2 h3
              obtain ⟨hm, hd, hthr, hal⟩ := thru_up ht
              by_cases hs : sgnR (T.drop 1) = 0
              · have hk := head_leafk hs hh
                rw [if_neg hk] at hl
                injection hl with hl; injection hl with e1 hl; injection hl with e2 e3
                subst e1 e2 e3
                obtain ⟨q, X, hlf, hq, hX, hdr⟩ := leaf_to hs hh h41
                have : thruL aloneF (d + 1) (m + 1) [] = some (m + 1) := by unfold thruL; rfl
                rw [this] at hthr
                injection hthr with hthr
                refine ⟨hthr.symm, fun g hg => ?_⟩
                cases g with
                | zero => omega
                | succ g =>
                  unfold oneR
                  rw [if_pos ⟨hc.2, hl2, h40⟩, if_pos hs, hlf]
                  dsimp only
                  have hal2 := alone_low2 (.mk k [] s v)
                  rw [hal] at hal2
                  rw [hq, show FV.mk k [] (smallL s) v = lowF (.mk k [] s v) by unfold lowF; simp [lowFL]]
                  rw [shut_yes hX hal2, hdr]
              · obtain ⟨hh2, h3⟩ := head_sgn hs
                rw [hh2] at hh
                injection hh with hh; injection hh with e1 hh; injection hh with e2 hh; injection hh with e3 e4
                subst e1 e2 e3 e4
                rw [if_pos (by omega)] at hl
                obtain ⟨e5, hmany⟩ := many_of_rd f d (m + 1) _ l n3 R2 n2 hl hthr
                refine ⟨e5, fun g hg => ?_⟩
                cases g with
                | zero => omega
                | succ g =>
                  unfold oneR
                  have hle := (thruL_le aloneF l _ _ _ hthr)
                  have hle2 := hle.2 (by omega)
                  rw [if_pos ⟨hc.2, hl2, h40⟩, if_neg hs, show T.drop 2 = (T.drop 1).drop 1 by rw [List.drop_drop], hmany g 0 (by simp; omega) (by omega)]
                  dsimp only
                  have hal2 := alone_low2 (.mk (sgnR (T.drop 1) : Int) l [] [])
                  rw [hal] at hal2
                  rw [show FV.mk (sgnR (T.drop 1) : Int) (lowFL l) [] [] = lowF (.mk (sgnR (T.drop 1) : Int) l [] []) by unfold lowF; rfl]
                  rw [shut_yes h41 hal2]
            · cases h
      · cases h
    · cases h
theorem many_of_rd : ∀ (f d m : Nat) (T : Txt) (l : List FV) (n : Nat) (R : Txt) (n2 : Nat), rdL f (d + 1) m T = some (l, n, R) → thruL aloneF (d + 1) m l = some n2 → n2 = n ∧ ∀ g k, 2 * T.length + 1 ≤ g → k + l.length ≤ 201 → manyR g d k T = some (lowFL l, R)
  | 0, d, m, T, l, n, R, n2, h, ht => by unfold rdL at h; cases h
  | f + 1, d, m, T, l, n, R, n2, h, ht => by
    unfold rdL at h
    split at h
    · rename_i h40
      split at h
      · cases h
      · rename_i t n3 R1 ho
        split at h
        · cases h
        · rename_i r n4 R2 hm
          injection h with h; injection h with h1 h; injection h with h2 h3
          subst h1 h2 h3
          unfold thruL at ht
          split at ht
          · cases ht
          · rename_i n5 hto
            obtain ⟨e1, hone⟩ := one_of_rd f (d + 1) m T t n3 R1 n5 ho hto
            subst e1
            obtain ⟨e2, hmany⟩ := many_of_rd f d n5 R1 r n4 R2 n2 hm ht
            refine ⟨e2, fun g k hg hk => ?_⟩
            simp only [List.length_cons] at hk
            cases g with
            | zero => omega
            | succ g =>
              have hone2 := hone g (by omega)
              have hlen := oneR_len _ _ _ _ _ hone2
              unfold manyR
              rw [if_pos h40, hone2]
              dsimp only
              rw [if_neg (by omega), hmany g (k + 1) (by omega) (by omega)]
              simp [lowFL]
    · rename_i h40
      injection h with h; injection h with h1 h; injection h with h2 h3
      subst h1 h2 h3
      unfold thruL at ht
      injection ht with ht
      refine ⟨ht.symm, fun g k hg hk => ?_⟩
      cases g with
      | zero => omega
      | succ g =>
        unfold manyR
        rw [if_neg h40]
        simp [lowFL]
end
end Go.Proofs.YtbfebljahjmjfaaGreatDoor
