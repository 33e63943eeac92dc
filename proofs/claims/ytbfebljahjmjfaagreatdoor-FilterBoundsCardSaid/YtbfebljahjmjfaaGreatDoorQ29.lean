import Derived.Test.YtbfebljahjmjfaaGreatDoorQ20
import Derived.BigQuiet
/- filter: the Value that stands in a text; walked. -/
namespace Go.Proofs.YtbfebljahjmjfaaGreatDoor
open Go.RowKit Go.Shelf
set_option linter.unusedVariables false
set_option linter.unusedSimpArgs false
set_option maxRecDepth 100000

/-- The Value that a text says; none where it says none. -/
def plnV : Nat → Txt → Option Txt
 | _, [] => some []
 | 0, _ :: _ => none
 | f + 1, c :: l => if c = 92 then (if 2 ≤ l.length then (hexN (l.take 2)).bind fun n => (plnV f (l.drop 2)).map (UInt8.ofNat n :: ·) else none)
   else if plainP c = true then (plnV f l).map (c :: ·) else none
theorem plnV_cons (f : Nat) (c : UInt8) (l : Txt) : plnV (f + 1) (c :: l) = if c = 92 then (if 2 ≤ l.length then (hexN (l.take 2)).bind fun n => (plnV f (l.drop 2)).map (UInt8.ofNat n :: ·) else none)
   else if plainP c = true then (plnV f l).map (c :: ·) else none := rfl
theorem hexN_two8 {l : Txt} (hl : l.length = 2) {N : Nat} (h : hexN l = some N) : N < 256 := by
 match l, hl with
 | [c, d], _ =>
  unfold hexN at h
  simp only [List.foldl_cons, List.foldl_nil] at h
  cases h1 : dig1 c.toNat with
  | none => rw [h1] at h; simp at h
  | some a =>
   cases h2 : dig1 d.toNat with
   | none => rw [h1, h2] at h; simp at h
   | some b =>
    rw [h1, h2] at h
    simp at h
    have e1 := dig_bound h1
    have e2 := dig_bound h2
    omega
/-- What a round finds: the bytes read, what is left. -/
def PlnI (T acc U : Txt) : Prop := ∃ f, U.length ≤ f ∧ plnV T.length T = (plnV f U).map (acc ++ ·) ∧ acc.length + U.length ≤ T.length
theorem PlnI.start (T : Txt) : PlnI T [] T := ⟨T.length, Nat.le_refl _, by cases plnV T.length T <;> simp, by simp⟩
theorem PlnI.fin {T acc : Txt} (h : PlnI T acc []) : plnV T.length T = some acc := by
 obtain ⟨f, _, h2, _⟩ := h
 rw [h2]
 cases f <;> simp [plnV]
theorem PlnI.no {T acc l : Txt} {c : UInt8} (h : PlnI T acc (c :: l)) (h9 : c ≠ 92) (hp : plainP c = false) : plnV T.length T = none := by
 obtain ⟨f, h1, h2, _⟩ := h
 cases f with
 | zero => simp at h1
 | succ f => rw [h2, plnV_cons, if_neg h9, if_neg (by rw [hp]; simp)]; rfl
theorem PlnI.yes {T acc l : Txt} {c : UInt8} (h : PlnI T acc (c :: l)) (h9 : c ≠ 92) (hp : plainP c = true) : PlnI T (acc ++ [c]) l := by
 obtain ⟨f, h1, h2, h3⟩ := h
 cases f with
 | zero => simp at h1
 | succ f =>
  simp only [List.length_cons] at h1 h3
  refine ⟨f, by omega, ?_, by simp; omega⟩
  rw [h2, plnV_cons, if_neg h9, if_pos hp]
  cases plnV f l <;> simp
theorem PlnI.short {T acc l : Txt} (h : PlnI T acc (92 :: l)) (hl : l.length < 2) : plnV T.length T = none := by
 obtain ⟨f, h1, h2, _⟩ := h
 cases f with
 | zero => simp at h1
 | succ f => rw [h2, plnV_cons, if_pos rfl, if_neg (by omega)]; rfl
theorem PlnI.bad {T acc l : Txt} (h : PlnI T acc (92 :: l)) (hx : hexN (l.take 2) = none) : plnV T.length T = none := by
 obtain ⟨f, h1, h2, _⟩ := h
 cases f with
 | zero => simp at h1
 | succ f =>
  rw [h2, plnV_cons, if_pos rfl, hx]
  split <;> rfl
theorem PlnI.hex {T acc l : Txt} {n : Nat} (h : PlnI T acc (92 :: l)) (hl : 2 ≤ l.length) (hx : hexN (l.take 2) = some n) : PlnI T (acc ++ [UInt8.ofNat n]) (l.drop 2) := by
 obtain ⟨f, h1, h2, h3⟩ := h
 cases f with
 | zero => simp at h1
 | succ f =>
  simp only [List.length_cons] at h1 h3
  refine ⟨f, by rw [List.length_drop]; omega, ?_, by rw [List.length_drop]; simp; omega⟩
  rw [h2, plnV_cons, if_pos rfl, if_pos hl, hx]
  show Option.map _ (Option.map _ _) = _
  cases plnV f (l.drop 2) <;> simp
theorem src_lit35 (w : World) (cs : Array Value) (l : List UInt8) (h : cs = (l.map bv).toArray) : Src (w.alloc (.cells cs 5)) (some ⟨w.heap.size, 0, none⟩) l.length (l.map bv) := by
 subst h
 refine ⟨(fun h => by cases h), fun ad hA j u hu => ?_⟩
 injection hA with hA
 subst hA
 rw [add_at, Nat.zero_add, World.cell?_alloc_new]
 simpa using hu
theorem keeps_own35 {w a b : World} {bs : List Nat} {e : TypeId} {k n : Nat} {v : Value} {xs : List Value} (h : a.ownsRow w.heap.size e k v n xs) (hk : Keeps bs w a) (hg : a.grownBy b v.ownBlock) : Keeps bs w b :=
 hk.trans (Keeps.of_grown (bs := v.ownBlock.toList) hg (fun x hx => .inl (by rw [hx]; simp))) (fun x hx => .inr (by
  cases hv : v.ownBlock with
  | none => rw [hv] at hx; simp at hx
  | some y => rw [hv] at hx; simp at hx; subst hx; exact (h.lt x hv).1))
/-- What a round of plainValue's loop finds in memory. -/
structure PlnS (T : Txt) (p : Nat) (W1 wr : World) (A : Option Addr) (an cc : Nat) (acc U : Txt) : Prop where
 inv : PlnI T acc U
 len : acc.length = an
 box : RstAt wr p U
 row : wr.ownsRow W1.heap.size 5 1 (.slice A an cc) an (acc.map bv)
 keep : Keeps [p] W1 wr
theorem PlnS.more {T acc U U2 : Txt} {p an cc : Nat} {x : UInt8} {W1 wr w2 w3 : World} {A : Option Addr} {v : Value} (h : PlnS T p W1 wr A an cc acc U) (hp : p < W1.heap.size) (hi : PlnI T (acc ++ [x]) U2) (hb : RstAt w2 p U2) (hk : Keeps [p] wr w2)
  (ho : w3.ownsRow W1.heap.size 5 1 v (an + 1) (acc.map bv ++ [bv x])) (hg : (w2.alloc (.cells #[bv x] 5)).grownBy w3 (Value.slice A an cc).ownBlock) : ∃ VB vd, v = .slice VB (an + 1) vd ∧ PlnS T p W1 w3 VB (an + 1) vd (acc ++ [x]) U2 := by
 obtain ⟨VB, vd, hv⟩ := own_slice ho
 subst hv
 have hnp : ∀ b, (Value.slice A an cc).ownBlock = some b → b ∉ [p] := fun b hb hm => by
  have := (h.row.lt b hb).1
  simp at hm
  omega
 have hrow2 : (w2.alloc (.cells #[bv x] 5)).ownsRow W1.heap.size 5 1 (.slice A an cc) an (acc.map bv) := own_keep h.row (hk.alloc _) hnp
 have hk2 : Keeps [p] W1 (w2.alloc (.cells #[bv x] 5)) := h.keep.trans (hk.alloc _) (fun x hx => .inl hx)
 refine ⟨VB, vd, rfl, hi, by simp [h.len], ?_, by simpa using ho, keeps_own35 hrow2 hk2 hg⟩
 have hgk := Keeps.of_grown (bs := (Value.slice A an cc).ownBlock.toList) hg (fun x hx => .inl (by rw [hx]; simp))
 have hb2 : RstAt (w2.alloc (.cells #[bv x] 5)) p U2 := hb.keep (bs := []) ((Keeps.refl [] _).alloc _) (by simp)
 refine hb2.keep hgk (fun hm => ?_)
 have h9 : (Value.slice A an cc).ownBlock = some p := by simpa using hm
 exact hnp p h9 (by simp)
def restLen (w : World) (p : Nat) : Nat := match w.cell? ⟨p, 0, none⟩ with | some (.string s) => s.size | _ => 0
theorem restLen_is {w : World} {p : Nat} {U : Txt} (h : RstAt w p U) : restLen w p = U.length := by
 unfold restLen
 rw [h.cells.1]
 rfl
def PlvQ (T : Txt) (w : World) (e : Ending) (w' : World) : Prop := (∀ v, plnV T.length T = some v → e = .returned (tv v)) ∧ (plnV T.length T = none → e = gaveUp8 180) ∧ Keeps [] w w'
set_option maxHeartbeats 8000000 in
theorem plainvalue_is (T : Txt) (w : World) (hl : T.length ≤ 1000000000) (hs : SynAt w) :
  Calls Tryz.prog 137 #[tv T] w fun e w' => PlvQ T w e w' := by
 obtain ⟨iu, hiu, hzu0, hzu1, hzu2⟩ := info_parts u8_info
 have hsl := hs.lt
 have hnew := heap_new8 w (.cells #[.string ⟨T.toArray⟩] 113)
 have hK : Keeps [] w (w.alloc (.cells #[.string ⟨T.toArray⟩] 113)) := (Keeps.refl [] w).alloc _
 have hsz : (w.alloc (.cells #[.string ⟨T.toArray⟩] 113)).heap.size = w.heap.size + 1 := by simp
 obtain ⟨W1, hW1⟩ : ∃ W1, w.alloc (.cells #[.string ⟨T.toArray⟩] 113) = W1 := ⟨_, rfl⟩
 rw [hW1] at hnew hK hsz
 obtain ⟨p, hp⟩ : ∃ p, w.heap.size = p := ⟨_, rfl⟩
 have HP := Lib.hid hp
 have HSZ := Lib.hid hsz
 have HK := Lib.hid hK
 have HS : Hid (∀ X, Keeps [p] W1 X → SynAt X) := fun X hk => (hs.keep hK (by simp)).keep hk (by simp; omega)
 have HB : Hid (RstAt W1 p T) := by rw [hp] at hnew; exact hnew
 have HPL : Hid (p < W1.heap.size) := by show _ < _; omega
 obtain ⟨n, hn⟩ : ∃ n, T.length = n := ⟨_, rfl⟩
 have HN := Lib.hid hn
 rw [hn] at hl
 have HW1 := Lib.hid hW1
 have HM := Lib.hid (must8_yes 180)
 have HMN := Lib.hid (must8_no 180)
 have HBAD : Hid (∀ w2, Keeps [p] W1 w2 → plnV T.length T = none → PlvQ T w (gaveUp8 180) w2) := fun w2 hk h9 => ⟨fun v h => (by rw [h9] at h; cases h), fun _ => rfl, hK.trans hk (fun x hx => .inr (by simp at hx; subst hx; omega))⟩
 clear hs hsl hnew hK hsz hW1 hn
 unfold tv
 go_enter Tryz.func137, Tryz.ntmps137
 go_wp2_with fail
 rw [HW1.out]
 try simp only [hp]
 clear hp
 go_loopw [3] (fun o wr => ∃ (A : Option Addr) (an cc : Nat) (acc U : Txt), o = .slice A an cc ∧ Hid (PlnS T p W1 wr A an cc acc U)) (fun _ wr => restLen wr p)
 case atStart => exact ⟨none, 0, 0, [], T, rfl, PlnI.start T, rfl, HB.out, World.ownsRow_nil _ _ _ _, Keeps.refl _ _⟩
 case round =>
  obtain ⟨A, an, cc, acc, U, rfl, HV⟩ := hrel
  obtain ⟨c0, f0⟩ := HV.out.box.cells
  have HRL := Lib.hid (restLen_is HV.out.box)
  have han : an ≤ n := by obtain ⟨f, _, _, h3⟩ := HV.out.inv; have := HN.out; have := HV.out.len; omega
  cases U with
  | nil =>
   have hfin := HV.out.inv.fin
   have hcb := conv_bytes (BytesAt.of_own (by have h9 := HV.out.row; rw [← HV.out.len] at h9; exact h9))
   rw [HV.out.len] at hcb
   have HKK : Hid (Keeps [] w wr) := HK.out.trans HV.out.keep (fun x hx => .inr (by simp at hx; subst hx; have := HP.out; omega))
   have HR : Hid (PlvQ T w (.returned (tv acc)) wr) := ⟨fun v h => (by rw [hfin] at h; injection h with h; subst h; rfl), fun h => (by rw [hfin] at h; cases h), HKK.out⟩
   clear hfin HRL
   go_wp2_with fail
   go_ret
   exact HR.out
  | cons u l =>
   have hul : u.toNat < 256 := u.toNat_lt
   have hanl : an < n := by obtain ⟨f, _, _, h3⟩ := HV.out.inv; have := HN.out; have := HV.out.len; simp only [List.length_cons] at h3; omega
   have HNX := Lib.hid (next8_yes p (u :: l) 1 wr HV.out.box (by simp))
   rw [show (u :: l).take 1 = [u] from rfl, show (u :: l).drop 1 = l from rfl] at HNX
   have HNP : Hid (∀ b, (Value.slice A an cc).ownBlock = some b → b ∉ [p]) := fun b hb hm => by
    have h8 := (HV.out.row.lt b hb).1
    have h9 := HPL.out
    simp at hm
    omega
   go_wp2_with fail
   refine HNX.out.mono ?_
   rintro e w1 ⟨rfl, hb1, hk1⟩
   have HB1 := Lib.hid hb1
   have HKW1 : Hid (Keeps [p] W1 w1) := HV.out.keep.trans hk1 (fun x hx => .inl hx)
   have HK1 := Lib.hid hk1
   clear hb1 hk1 c0 f0
   unfold tv
   by_cases h92 : u = 92
   ·subst h92
    have h92k : ((((⟨#[92]⟩ : ByteArray)[0]'(by decide)).toNat : Int) = 92) := rfl
    by_cases h2 : 2 ≤ l.length
    ·have HN2 := Lib.hid (next8_yes p l 2 w1 HB1.out h2)
     have hl2 : (l.take 2).length = 2 := by rw [List.length_take]; omega
     have HPU := Lib.hid (fun X (hX : Keeps [p] W1 X) => scpu_is (l.take 2) X hl2 (HS.out X hX))
     have HEX := Lib.hid (fun k (h : hexN (l.take 2) = some k) => HV.out.inv.hex h2 h)
     have HBX := Lib.hid (fun (h : hexN (l.take 2) = none) => HV.out.inv.bad h)
     have HNU := Lib.hid (fun N (h : hexN (l.take 2) = some N) => hexN_two8 hl2 h)
     obtain ⟨R, hR⟩ : ∃ R, hexN (l.take 2) = R := ⟨_, rfl⟩
     rw [hR] at HPU HEX HBX HNU
     clear hR hl2 HNX
     generalize l.take 2 = l2 at HN2 HPU
     unfold tv at HN2
     go_wp2_with fail
     refine HN2.out.mono ?_
     rintro e w2 ⟨rfl, hb2, hk2⟩
     have HB2 := Lib.hid hb2
     have HKW2a : Hid (Keeps [p] W1 w2) := HKW1.out.trans hk2 (fun x hx => .inl hx)
     have HK2 : Hid (Keeps [p] wr w2) := HK1.out.trans hk2 (fun x hx => .inl hx)
     clear hb2 hk2
     go_wp2_with fail
     refine (HPU.out w2 HKW2a.out).mono ?_
     rintro e w3 ⟨⟨hp1, hp2⟩, hk3⟩
     have HBQ : Hid (RstAt w3 p (l.drop 2)) := HB2.out.keep hk3 (by simp)
     have HKW2 : Hid (Keeps [p] W1 w3) := HKW2a.out.trans hk3 (fun x hx => by cases hx)
     have HKR2 : Hid (Keeps [p] wr w3) := HK2.out.trans hk3 (fun x hx => by cases hx)
     clear hk3
     cases R with
     | none =>
      obtain ⟨x, t, v, rfl⟩ := hp2 rfl
      have HR := Lib.hid (HBAD.out w3 HKW2.out (HBX.out rfl))
      clear hp1 hp2
      go_wp2_with fail
      refine (HMN.out _).mono ?_
      rintro e w4 ⟨rfl, rfl⟩
      go_wp2_with fail
      exact ⟨rfl, HR.out⟩
     | some k =>
      obtain rfl := hp1 k rfl
      have hk256 := HNU.out k rfl
      have HVI : Hid (PlnI T (acc ++ [UInt8.ofNat k]) (l.drop 2)) := HEX.out k rfl
      obtain ⟨x, hx⟩ : ∃ x, UInt8.ofNat k = x := ⟨_, rfl⟩
      rw [hx] at HVI
      have hxk : (k : Int) = (x.toNat : Int) := by rw [← hx]; simp; omega
      clear hp1 hp2 hx
      rw [hxk]
      have hx256 : x.toNat < 256 := x.toNat_lt
      go_wp2_with fail
      refine (HM.out _).mono ?_
      rintro e w4 ⟨rfl, rfl⟩
      go_wp2_with (at_builtin; refine wpList_append_opt rfl (.tmp 28) (.tmp 30) 37 rfl W1.heap.size 5 iu _ 1 1 Tryz.underlying37 hiu hzu0 hzu1 hzu2 rfl (by decide) (.slice A an cc) an (acc.map bv) rfl (own_keep HV.out.row (HKR2.out.alloc _) HNP.out) (some ⟨w3.heap.size, 0, none⟩) 1 1 ([x].map bv) rfl rfl (src_lit35 w3 _ [x] rfl) bvs_one (by unfold maxLen; omega) (by omega) (by have := HKW2.out.size; simp; omega) ?_; intro v3 w3 ho hg3 hs3; obtain ⟨VB, vd, hv3, hnew⟩ := HV.out.more HPL.out HVI.out HBQ.out HKR2.out ho hg3; subst hv3; have HNEW := Lib.hid hnew; clear hnew ho hg3 hs3)
      go_roundw
      case rel => exact ⟨VB, an + 1, vd, acc ++ [x], l.drop 2, rfl, HNEW.out⟩
      case measure =>
       have e1 := HRL.out
       have e2 := restLen_is HNEW.out.box
       rw [e1, e2, List.length_drop, List.length_cons]
       omega
    ·have HN2 := Lib.hid (next8_no p l 2 w1 HB1.out (by omega))
     have HSH := Lib.hid (HV.out.inv.short (by omega))
     have HR : Hid (∀ X, Keeps [p] W1 X → PlvQ T w (gaveUp8 180) X) := fun X hX => HBAD.out X hX HSH.out
     clear HNX
     go_wp2_with fail
     refine HN2.out.mono ?_
     rintro e w2 ⟨rfl, hk2⟩
     have HKW2 : Hid (Keeps [p] W1 w2) := HKW1.out.trans hk2 (fun x hx => .inl hx)
     go_wp2_with fail
     exact ⟨rfl, HR.out w2 HKW2.out⟩
   ·have h92i : ¬ (u.toNat : Int) = 92 := fun h => h92 (UInt8.toNat_inj.1 (by show u.toNat = 92; omega))
    have h92j : ¬ ((((⟨#[u]⟩ : ByteArray)[0]'(by show 0 < 1; omega)).toNat : Int) = 92) := h92i
    have h92b : (((((⟨#[u]⟩ : ByteArray)[0]'(by show 0 < 1; omega)).toNat : Int)) == 92) = false := by simpa using h92j
    have HPN := Lib.hid (isplain8_is u w1)
    have HNO := Lib.hid (fun h => HV.out.inv.no h92 h)
    have HYES := Lib.hid (fun h => HV.out.inv.yes h92 h)
    obtain ⟨pl, hpl⟩ : ∃ pl, plainP u = pl := ⟨_, rfl⟩
    rw [hpl] at HPN HNO HYES
    clear hpl h92 HNX
    go_wp2_with fail
    refine HPN.out.mono ?_
    rintro e w2 ⟨rfl, rfl⟩
    cases pl
    ·have HR := Lib.hid (HBAD.out w1 HKW1.out (HNO.out rfl))
     go_wp2_with fail
     refine (HMN.out _).mono ?_
     rintro e w5 ⟨rfl, rfl⟩
     go_wp2_with fail
     exact ⟨rfl, HR.out⟩
    ·have HVI : Hid (PlnI T (acc ++ [u]) l) := HYES.out rfl
     have HKR2 := HK1
     have HKW2 := HKW1
     have HBQ := HB1
     go_wp2_with fail
     refine (HM.out _).mono ?_
     rintro e w5 ⟨rfl, rfl⟩
     go_wp2_with (at_builtin; refine wpList_append_opt rfl (.tmp 28) (.tmp 30) 37 rfl W1.heap.size 5 iu _ 1 1 Tryz.underlying37 hiu hzu0 hzu1 hzu2 rfl (by decide) (.slice A an cc) an (acc.map bv) rfl (own_keep HV.out.row (HKR2.out.alloc _) HNP.out) (some ⟨w1.heap.size, 0, none⟩) 1 1 ([u].map bv) rfl rfl (src_lit35 w1 _ [u] rfl) bvs_one (by unfold maxLen; omega) (by omega) (by have := HKW2.out.size; simp; omega) ?_; intro v3 w3 ho hg3 hs3; obtain ⟨VB, vd, hv3, hnew⟩ := HV.out.more HPL.out HVI.out HBQ.out HKR2.out ho hg3; subst hv3; have HNEW := Lib.hid hnew; clear hnew ho hg3 hs3)
     go_roundw
     case rel => exact ⟨VB, an + 1, vd, acc ++ [u], l, rfl, HNEW.out⟩
     case measure =>
      have e1 := HRL.out
      have e2 := restLen_is HNEW.out.box
      rw [e1, e2, List.length_cons]
      omega
end Go.Proofs.YtbfebljahjmjfaaGreatDoor
