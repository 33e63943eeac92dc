/- Texts of one proof, laid together: U6 U7 U8 U9. -/
import Derived.Test.YthgpjlmdllihmaaGreatM14
import Derived.Test.YthgpjlmdllihmaaGreatM07
import Derived.Test.YthgpjlmdllihmaaGreatM12
import Derived.Test.YthgpjlmdllihmaaGreatM08
/- Changes: in memory; which may be; the table behind them. -/
namespace Go.Proofs.YthgpjlmdllihmaaGreat
open Go.RowKit Go.Maps Go.ChangeMaps Go.MapKept
set_option linter.unusedVariables false
set_option linter.unusedSimpArgs false
set_option maxRecDepth 100000

structure Chg where
  k : List UInt8
  v : List UInt8
  g : Bool

abbrev sv (x : List UInt8) : Value := .string ⟨x.toArray⟩
def Chg.val (x : Chg) : Value := .agg #[sv x.k, sv x.v, .bool x.g]

structure ChgOk (w : World) (b o : Nat) (x : Chg) : Prop where
  c0 : w.cell? ⟨b, o, none⟩ = some (sv x.k)
  c1 : w.cell? ⟨b, o + 1, none⟩ = some (sv x.v)
  c2 : w.cell? ⟨b, o + 2, none⟩ = some (.bool x.g)
  lk : x.k.length ≤ 9223372036854775807
  lv : x.v.length ≤ 9223372036854775807

structure ChgsAt (w : World) (A : Option Addr) (len : Nat) (l : List Chg) : Prop where
  len : l.length = len
  at_ : ∀ i x, l[i]? = some x → ∃ b o, A = some ⟨b, o, none⟩ ∧ ChgOk w b (o + i * 3) x

theorem ChgOk.keep {w w' : World} {b o : Nat} {x : Chg} {bs : List Nat} (h : ChgOk w b o x) (hk : Keeps bs w w') (hb : b ∉ bs) : ChgOk w' b o x := by
  have hc : ∀ {i : Nat} {v : Value}, w.cell? ⟨b, i, none⟩ = some v → w'.cell? ⟨b, i, none⟩ = some v := fun hp => (hk.cell (lt_of_cell hp) hb).trans hp
  exact ⟨hc h.c0, hc h.c1, hc h.c2, h.lk, h.lv⟩
theorem ChgsAt.keep {w w' : World} {A : Option Addr} {len : Nat} {l : List Chg} {bs : List Nat} (h : ChgsAt w A len l) (hk : Keeps bs w w') (hb : ∀ a, A = some a → a.block ∉ bs) : ChgsAt w' A len l := by
  refine ⟨h.len, fun i x hx => ?_⟩
  obtain ⟨b, o, h1, h2⟩ := h.at_ i x hx
  exact ⟨b, o, h1, h2.keep hk (hb _ h1)⟩
theorem ChgsAt.grow {w w' : World} {A : Option Addr} {len : Nat} {l : List Chg} (h : ChgsAt w A len l) (hk : Keeps [] w w') : ChgsAt w' A len l := h.keep hk (by simp)

def Chg.ok (x : Chg) : Bool := decide (1 ≤ x.k.length) && decide (x.k.length ≤ 200) && decide (x.v.length ≤ 8192) && !(x.g && decide (x.v ≠ []))
def csize (l : List Chg) : Nat := (l.map fun x => x.k.length + x.v.length).sum
def chgsOk (l : List Chg) : Bool := decide (l.length ≤ 100) && (l.all Chg.ok && decide (csize l ≤ 16384))

/-- The table behind a change. -/
def chgT (T : Tab) (x : Chg) : Tab := if x.g then tdel T x.k else tput T x.k x.v
def behindT (T : Tab) (l : List Chg) : Tab := l.foldl chgT T

theorem csize_snoc (l : List Chg) (x : Chg) : csize (l ++ [x]) = csize l + (x.k.length + x.v.length) := by simp [csize]
theorem behindT_snoc (T : Tab) (l : List Chg) (x : Chg) : behindT T (l ++ [x]) = chgT (behindT T l) x := by simp [behindT]

theorem tins_len (x : List UInt8 × List UInt8) : ∀ T : Tab, (tins x T).length = T.length + 1
  | [] => rfl
  | y :: r => by
    unfold tins
    split
    · rfl
    · simp [tins_len x r]
theorem tdel_len (T : Tab) (k : List UInt8) : (tdel T k).length ≤ T.length := List.length_filter_le _ _
theorem tput_len (T : Tab) (k v : List UInt8) : (tput T k v).length ≤ T.length + 1 := by
  unfold tput
  rw [tins_len]
  have := tdel_len T k
  omega
theorem chgT_len (T : Tab) (x : Chg) : (chgT T x).length ≤ T.length + 1 := by
  unfold chgT
  split
  · have := tdel_len T x.k; omega
  · exact tput_len T x.k x.v
theorem behindT_len (l : List Chg) : ∀ T : Tab, (behindT T l).length ≤ T.length + l.length := by
  induction l with
  | nil => intro T; simp [behindT]
  | cons x r ih =>
    intro T
    have h1 := ih (chgT T x)
    have h2 := chgT_len T x
    show (behindT (chgT T x) r).length ≤ _
    simp only [List.length_cons]
    omega

theorem maybe_is (x : Chg) (w : World) (hk : x.k.length ≤ 9223372036854775807) (hv : x.v.length ≤ 9223372036854775807) : Calls Tryz.prog 43 #[x.val] w fun e w' => e = .returned (.bool x.ok) ∧ Keeps [] w w' := by
  unfold Chg.val
  have H1 := Lib.hid (fun W => maybekey_is x.k W hk)
  have H2 := Lib.hid (fun W => maybevalue_is x.v W hv)
  by_cases h1 : (decide (1 ≤ x.k.length) && decide (x.k.length ≤ 200)) = true
  · rw [h1] at H1
    by_cases h2 : decide (x.v.length ≤ 8192) = true
    · rw [h2] at H2
      cases hg : x.g
      all_goals
        go_enter Tryz.func43, Tryz.ntmps43
        go_wp2_with (first
          | (go_at_call 58; refine (H1.out _).mono ?_; rintro e w' ⟨rfl, rfl⟩)
          | (go_at_call 59; refine (H2.out _).mono ?_; rintro e w' ⟨rfl, rfl⟩))
        go_ret
        exact ⟨by first | (simp [Chg.ok, h1, h2, hg]; done) | (simp [Chg.ok, h1, h2, hg]; cases x.v <;> simp), (Keeps.refl [] w).alloc _⟩
    · have h2' : decide (x.v.length ≤ 8192) = false := by simpa using h2
      rw [h2'] at H2
      go_enter Tryz.func43, Tryz.ntmps43
      go_wp2_with (first
        | (go_at_call 58; refine (H1.out _).mono ?_; rintro e w' ⟨rfl, rfl⟩)
        | (go_at_call 59; refine (H2.out _).mono ?_; rintro e w' ⟨rfl, rfl⟩))
      go_ret
      exact ⟨by simp only [Chg.ok, h1, h2', Bool.and_false, Bool.false_and]; rfl, (Keeps.refl [] w).alloc _⟩
  · have h1' : (decide (1 ≤ x.k.length) && decide (x.k.length ≤ 200)) = false := by simpa using h1
    rw [h1'] at H1
    go_enter Tryz.func43, Tryz.ntmps43
    go_wp2_with (first
      | (go_at_call 58; refine (H1.out _).mono ?_; rintro e w' ⟨rfl, rfl⟩)
      | (go_at_call 59; refine (H2.out _).mono ?_; rintro e w' ⟨rfl, rfl⟩))
    go_ret
    exact ⟨by simp only [Chg.ok, h1', Bool.false_and]; rfl, (Keeps.refl [] w).alloc _⟩

theorem csize_le {l : List Chg} (h : l.all Chg.ok = true) : csize l ≤ 8392 * l.length := by
  induction l with
  | nil => simp [csize]
  | cons x r ih =>
    simp only [List.all_cons, Bool.and_eq_true] at h
    have h1 := ih h.2
    have h2 := h.1
    simp only [Chg.ok, Bool.and_eq_true, decide_eq_true_eq] at h2
    have e : csize (x :: r) = x.k.length + x.v.length + csize r := by simp [csize]
    simp only [List.length_cons]
    omega

theorem maybeput_no (A : Option Addr) (len c : Nat) (w : World) (h : 100 < len) (hm : len ≤ 9223372036854775807) : Calls Tryz.prog 24 #[.slice A len c] w fun e w' => e = .returned (.bool false) ∧ w = w' := by
  go_enter Tryz.func24, Tryz.ntmps24
  go_wp2
  go_ret
  exact ⟨rfl, rfl⟩

theorem maybeput_in (A : Option Addr) (len c : Nat) (l : List Chg) (w : World) (h : len ≤ 100) (hl : ChgsAt w A len l) : Calls Tryz.prog 24 #[.slice A len c] w fun e w' => e = .returned (.bool (chgsOk l)) ∧ Keeps [] w w' := by
  have HL := Lib.hid hl
  have hll := hl.len
  have h100 : ¬ (100 : Int) < (len : Int) := by omega
  clear hl
  go_enter Tryz.func24, Tryz.ntmps24
  go_wp2
  go_loopw [3, 11] (fun s i wr => ∃ j : Nat, i = .int .i64 (j : Int) ∧ s = .int .i64 (csize (l.take j) : Nat) ∧ j ≤ len ∧ Hid ((l.take j).all Chg.ok = true) ∧ Hid (Keeps [] w wr)) (fun _ i _ => len - (intOf i).toNat)
  case atStart => exact ⟨0, rfl, by simp [csize], Nat.zero_le _, by simp [Hid], Keeps.refl _ _⟩
  case round =>
    obtain ⟨j, rfl, rfl, hj, HA, HK⟩ := hrel
    have hcs := csize_le HA.out
    have htl : (l.take j).length ≤ 100 := by rw [List.length_take]; omega
    by_cases hlt : j < len
    · have hx : l[j]? = some (l[j]'(by omega)) := List.getElem?_eq_getElem (by omega)
      obtain ⟨b, o, rfl, ho⟩ := (HL.out.grow HK.out).at_ j _ hx
      have htk : l.take (j + 1) = l.take j ++ [l[j]'(by omega)] := List.take_succ_eq_append_getElem (by omega)
      have hmem : l[j]'(by omega) ∈ l := List.getElem_mem _
      generalize l[j]'(by omega) = x at *
      have c0 := ho.c0
      have c1 := ho.c1
      have c2 := ho.c2
      have HMB := Lib.hid (fun W => maybe_is x W ho.lk ho.lv)
      have lk := ho.lk
      have lv := ho.lv
      have HT := Lib.hid htk
      clear ho hx htk
      cases hok : x.ok
      · have HF : Hid (chgsOk l = false) := by
          show _ = _
          have : l.all Chg.ok = false := by rw [List.all_eq_false]; exact ⟨x, hmem, by simp [hok]⟩
          simp [chgsOk, this]
        rw [hok] at HMB
        clear hmem
        go_wp2_with (go_at_call 43; refine (HMB.out _).mono ?_; rintro e w2 ⟨rfl, hk2⟩; have HK2 := Lib.hid hk2; clear hk2)
        go_ret
        exact ⟨by rw [HF.out]; rfl, (HK.out.alloc _).trans' HK2.out⟩
      · have HA2 : Hid ((l.take (j + 1)).all Chg.ok = true) := by
          show _ = _
          rw [HT.out, List.all_append, HA.out]
          simp [hok]
        have hx2 := hok
        simp only [Chg.ok, Bool.and_eq_true, decide_eq_true_eq] at hx2
        obtain ⟨⟨⟨q1, q2⟩, q3⟩, _⟩ := hx2
        rw [hok] at HMB
        have HC : Hid (csize (l.take (j + 1)) = csize (l.take j) + (x.k.length + x.v.length)) := by show _ = _; rw [HT.out, csize_snoc]
        generalize csize (l.take j) = s at *
        clear hmem HA hok
        go_wp2_with (go_at_call 43; refine (HMB.out _).mono ?_; rintro e w2 ⟨rfl, hk2⟩; have HK2 := Lib.hid ((HK.out.alloc (.cells #[sv x.k, sv x.v, .bool x.g] 50)).trans' hk2); have d0 := (hk2.cell (p := ⟨wr.heap.size, 0, none⟩) (by simp) (by simp)).trans (World.cell?_alloc_new _ _ _ _); have d1 := (hk2.cell (p := ⟨wr.heap.size, 1, none⟩) (by simp) (by simp)).trans (World.cell?_alloc_new _ _ _ _); clear hk2)
        go_roundw
        case rel => exact ⟨j + 1, by go_num, by rw [HC.out]; go_num, by omega, HA2, HK2⟩
        case measure => simp [intOf]; omega
    · obtain rfl : j = len := by omega
      have htl2 : l.take j = l := List.take_of_length_le (by omega)
      rw [htl2] at HA hcs ⊢
      have HA' := HA.out
      go_wp2
      go_ret
      refine ⟨?_, HK.out⟩
      simp only [chgsOk, HA', Bool.true_and, show decide (l.length ≤ 100) = true from decide_eq_true (by omega)]
      have : decide ((csize l : Int) ≤ 16384) = decide (csize l ≤ 16384) := by
        by_cases hh : csize l ≤ 16384
        · rw [decide_eq_true hh, decide_eq_true (by omega)]
        · rw [decide_eq_false hh, decide_eq_false (by omega)]
      simpa using this

end Go.Proofs.YthgpjlmdllihmaaGreat
/- The table behind changes, in new memory. -/
namespace Go.Proofs.YthgpjlmdllihmaaGreat
open Go.RowKit Go.Maps Go.ChangeMaps Go.MapKept
set_option linter.unusedVariables false
set_option linter.unusedSimpArgs false
set_option maxRecDepth 100000

theorem run_make_hint (n : Int) (w : World) : (Instr.makeMap 60 (some (.int .i64 n))).run Tryz.prog w = .ok (.map (some w.heap.size)) (w.alloc (.map #[] 0)) := by
  simp [Instr.makeMap, run_underlying Tryz.underlying60, asInt, asIntOf, newObj]
  rfl

theorem behind_is (m : Option Nat) (T : Tab) (A : Option Addr) (len c : Nat) (l : List Chg) (w : World) (h : TabV w m T) (hT : T.length ≤ 10000) (h2 : len ≤ 100) (hl : ChgsAt w A len l) : Calls Tryz.prog 25 #[.map m, .slice A len c] w fun e w' => ∃ b, e = .returned (.map (some b)) ∧ MapAt w' b (behindT T l) ∧ w.heap.size ≤ b ∧ Keeps [] w w' := by
  have hln := fun (W : World) (hW : TabV W m T) => run_tlen hW 60 Tryz.underlying60 3
  have e0 := hln w h
  have hmk := run_make_hint ((T.length : Int) + (len : Int)) w
  have HL := Lib.hid hl
  have hll := hl.len
  have HC := Lib.hid (mcopy_any w.heap.size m T (w.alloc (.map #[] 0)) (MapAt.made w) (h.grow ((Keeps.refl [] w).alloc _)) (fun e => by subst e; have := h.lt; omega) (by omega))
  clear hl hln h
  go_enter Tryz.func25, Tryz.ntmps25
  go_wp2_with (go_at_call 44; refine HC.out.mono ?_; rintro e w1 ⟨rfl, hm1, hk1⟩; have HM1 := Lib.hid hm1; have HK1 := Lib.hid (((Keeps.refl [] w).alloc (.map #[] 0)).trans hk1 (fun x hx => .inr (by simp at hx; omega))); clear hm1 hk1)
  go_loopw [19] (fun i wr => ∃ j : Nat, i = .int .i64 (j : Int) ∧ j ≤ len ∧ Hid (MapAt wr w.heap.size (behindT T (l.take j))) ∧ Hid (Keeps [] w wr)) (fun i _ => len - (intOf i).toNat)
  case atStart => exact ⟨0, rfl, Nat.zero_le _, by simpa [behindT] using HM1, HK1⟩
  case round =>
    obtain ⟨j, rfl, hj, HM, HK⟩ := hrel
    by_cases hlt : j < len
    · have hx : l[j]? = some (l[j]'(by omega)) := List.getElem?_eq_getElem (by omega)
      obtain ⟨b, o, rfl, ho⟩ := (HL.out.grow HK.out).at_ j _ hx
      have htk : l.take (j + 1) = l.take j ++ [l[j]'(by omega)] := List.take_succ_eq_append_getElem (by omega)
      generalize l[j]'(by omega) = x at *
      have c0 := ho.c0
      have c1 := ho.c1
      have c2 := ho.c2
      have lk := ho.lk
      have lv := ho.lv
      have HT : Hid (behindT T (l.take (j + 1)) = chgT (behindT T (l.take j)) x) := by show _ = _; rw [htk, behindT_snoc]
      have hbl := behindT_len (l.take j) T
      have htl : (l.take j).length ≤ 100 := by rw [List.length_take]; omega
      have hsz := HM.out.lt
      have HMA : Hid (MapAt (wr.alloc (.cells #[sv x.k, sv x.v, .bool x.g] 50)) w.heap.size (behindT T (l.take j))) := HM.out.keep ((Keeps.refl [] wr).alloc _) (by simp)
      have HKA := Lib.hid (HK.out.alloc (.cells #[sv x.k, sv x.v, .bool x.g] 50))
      clear ho hx htk
      cases hg : x.g
      · have HT2 : Hid (behindT T (l.take (j + 1)) = tput (behindT T (l.take j)) x.k x.v) := by show _ = _; rw [HT.out, chgT, hg]; rfl
        rw [hg] at c2 HMA HKA
        generalize behindT T (l.take j) = S at *
        clear HT
        go_wp2_with (first
          | (at_mapUpdate; refine wpList_mapUpdate_own _ rfl _ _ _ 60 rfl 9 73 slaw Tryz.underlying60 rowElem w.heap.size _ _ rfl HMA.out (by unfold maxLen; omega) _ _ _ rfl rfl (skey lk) _ [] (rowElem_mk' lv) ?_; intro w2 hout2 hg2; go_frame; have HM2 := Lib.hid (MapAt.of (by rw [put_datT] at hout2; exact hout2)); have HK2 := Lib.hid (HKA.out.trans (Keeps.of_grown (bs := [w.heap.size]) hg2 (fun x hx => .inl (by simpa using hx.symm))) (fun x hx => .inr (by simp at hx; omega))); clear hout2 hg2)
          | go_in)
        go_roundw
        case rel => exact ⟨j + 1, by go_num, by omega, by rw [HT2.out]; exact HM2, HK2⟩
        case measure => simp [intOf]; omega
      · have HT2 : Hid (behindT T (l.take (j + 1)) = tdel (behindT T (l.take j)) x.k) := by show _ = _; rw [HT.out, chgT, hg]; rfl
        rw [hg] at c2 HMA HKA
        generalize behindT T (l.take j) = S at *
        clear HT
        go_wp2_with (first
          | (at_delete; refine wpList_delete_own _ rfl _ _ 60 9 rfl 73 slaw Tryz.underlying60 rowElem w.heap.size _ _ rfl HMA.out _ _ rfl (skey lk) ?_; intro w2 hout2 ht2; go_frame; have HM2 := Lib.hid (MapAt.of (by rw [del_datT] at hout2; exact hout2)); have HK2 := Lib.hid (HKA.out.trans (Keeps.of_grown (bs := [w.heap.size]) ht2.grown (fun x hx => .inl (by simpa using hx.symm))) (fun x hx => .inr (by simp at hx; omega))); clear hout2 ht2)
          | go_in)
        go_roundw
        case rel => exact ⟨j + 1, by go_num, by omega, by rw [HT2.out]; exact HM2, HK2⟩
        case measure => simp [intOf]; omega
    · obtain rfl : j = len := by omega
      have htl2 : l.take j = l := List.take_of_length_le (by omega)
      rw [htl2] at HM
      go_wp2
      go_ret
      exact ⟨_, rfl, HM.out, Nat.le_refl _, HK.out⟩

end Go.Proofs.YthgpjlmdllihmaaGreat
/- A number taken off bytes. -/
namespace Go.Proofs.YthgpjlmdllihmaaGreat
open Go.RowKit Go.Shelf
set_option linter.unusedVariables false
set_option linter.unusedSimpArgs false
set_option maxRecDepth 100000

/-- number: the first four bytes' number; the reader goes on behind them. -/
theorem number_is (p : Nat) (A : Option Addr) (n c : Nat) (xs : List UInt8) (w : World) (hp : Boxed w p 129 (.slice A n c)) (hn : xs.length = n) (hb : BytesAt w (.slice A n c) xs) (h4 : 4 ≤ n) :
    Calls Tryz.prog 73 #[.pointer (some ⟨p, 0, none⟩)] w fun e w' => ∃ B d, e = .returned (.int .u32 (num4 xs : Nat)) ∧ Boxed w' p 129 (.slice B (n - 4) d) ∧ BytesAt w' (.slice B (n - 4) d) (xs.drop 4) ∧ Keeps [p] w w' ∧ w'.heap.size = w.heap.size ∧ (∀ W, BytesAt W (.slice A n c) xs → BytesAt W (.slice B (n - 4) d) (xs.drop 4)) := by
  obtain ⟨hnc, hcm, hx⟩ := cap_of_bytes hb
  obtain ⟨B, d, hs1, hs2⟩ := slice_from A n c 4 xs hn hnc hcm h4 (fun h => by
    obtain ⟨b, o, rfl, _⟩ := bytes_addr hb (by omega)
    exact ⟨b, o, rfl⟩)
  have hs3 : ∀ W, (Instr.slice 55 (.slice A n c) (some (.int .i64 4)) none none).run Tryz.prog W = .ok (.slice B (n - 4) d) W := hs1
  clear hs1
  have hpc := hp.cell
  have hpf := hp.frozen
  have hne : ∀ b, (Value.slice A n c).ownBlock = some b → b ≠ p := fun b hbk => by
    obtain ⟨b', o, rfl, hc⟩ := bytes_addr hb (by omega)
    injection hbk with hbk
    subst hbk
    intro e
    have hu : xs[0]? = some (xs[0]'(by omega)) := List.getElem?_eq_getElem _
    have h1 := hc 0 _ hu
    replace e : b' = p := e
    rw [e] at h1
    have h2 : w.heap[p]? = some (.cells #[.slice (some ⟨b', o, none⟩) n c] 129 (0, 0)) := hp
    have h3 := cell_of_blk h2 (o + 0)
    rw [h1] at h3
    rcases o with _ | o
    · simp [bv] at h3
    · simp at h3
  have HP := Lib.hid hp
  have HB := Lib.hid hb
  have HN := Lib.hid hn
  have HS2 := Lib.hid hs2
  have HNE := Lib.hid hne
  have hh0 : c ≠ 0 := by omega
  clear hp hb hn hx hs2 hne
  go_enter Tryz.func73, Tryz.ntmps73
  go_wp2_with fail
  go_loopw [3, 4, 5, 12] (fun v iv bb i wr => ∃ j x : Nat, i = .int .i64 (j : Int) ∧ j ≤ 4 ∧ v = .int .u32 (x : Int) ∧ Hid (x = numP xs j) ∧ wr = w) (fun _ _ _ i _ => 4 - (intOf i).toNat)
  case atStart => exact ⟨0, 0, rfl, Nat.zero_le _, rfl, rfl, rfl⟩
  case round =>
    obtain ⟨j, x, rfl, hj, rfl, HX, rfl⟩ := hrel
    by_cases hlt : j < 4
    · have hnx := HN.out
      have hu : xs[j]? = some (xs[j]'(by omega)) := List.getElem?_eq_getElem _
      obtain ⟨b, o, rfl, hc⟩ := bytes_addr HB.out (by omega)
      have c0 := hc j _ hu
      have hx2 : x < 2 ^ (8 * j) := by rw [HX.out]; exact numP_lt xs j
      have HS : Hid (x + 2 ^ (8 * j) * (xs[j]'(by omega)).toNat = numP xs (j + 1)) := by
        show _ = _
        rw [HX.out]
        simp only [numP, hu, Option.getD_some]
      generalize xs[j]'(by omega) = u at *
      have hu8 : u.toNat < 256 := u.toNat_lt
      have ho := or_next hx2 hu8 (by omega)
      clear hc hu HX
      rcases (show j = 0 ∨ j = 1 ∨ j = 2 ∨ j = 3 by omega) with rfl | rfl | rfl | rfl
      · have h1 : Hid (x + 2 ^ (8 * 0) * u.toNat = numP xs 1) := HS
        replace ho : bits .or .u32 (x : Int) ((u.toNat : Int)) = ((x + 2 ^ (8 * 0) * u.toNat : Nat) : Int) := by simpa using ho
        rw [Nat.add_zero] at c0
        go_wp2_with fail
        go_roundw
        case rel => exact ⟨1, x + 2 ^ (8 * 0) * u.toNat, by go_num, by omega, by simp, h1, trivial⟩
        case measure => simp [intOf]
      · have h1 : Hid (x + 2 ^ (8 * 1) * u.toNat = numP xs 2) := HS
        replace ho : bits .or .u32 (x : Int) ((u.toNat : Int) * 256) = ((x + 2 ^ (8 * 1) * u.toNat : Nat) : Int) := by simpa using ho
        go_wp2_with fail
        go_roundw
        case rel => exact ⟨2, x + 2 ^ (8 * 1) * u.toNat, by go_num, by omega, by simp, h1, trivial⟩
        case measure => simp [intOf]
      · have h1 : Hid (x + 2 ^ (8 * 2) * u.toNat = numP xs 3) := HS
        replace ho : bits .or .u32 (x : Int) ((u.toNat : Int) * 65536) = ((x + 2 ^ (8 * 2) * u.toNat : Nat) : Int) := by simpa using ho
        go_wp2_with fail
        go_roundw
        case rel => exact ⟨3, x + 2 ^ (8 * 2) * u.toNat, by go_num, by omega, by simp, h1, trivial⟩
        case measure => simp [intOf]
      · have h1 : Hid (x + 2 ^ (8 * 3) * u.toNat = numP xs 4) := HS
        replace ho : bits .or .u32 (x : Int) ((u.toNat : Int) * 16777216) = ((x + 2 ^ (8 * 3) * u.toNat : Nat) : Int) := by simpa using ho
        go_wp2_with fail
        go_roundw
        case rel => exact ⟨4, x + 2 ^ (8 * 3) * u.toNat, by go_num, by omega, by simp, h1, trivial⟩
        case measure => simp [intOf]
    · have e4 : Hid (((x : Nat) : Int) = ((num4 xs : Nat) : Int)) := by
        show _ = _
        have : j = 4 := by omega
        rw [HX.out, this, numP_four]
      go_wp2_with fail
      go_ret
      have kset : Keeps [p] wr (wr.setCell ⟨p, 0, none⟩ (.slice B (n - 4) d)) := (Keeps.refl _ _).setCell (.inl (by simp)) _
      exact ⟨B, d, by rw [e4.out]; rfl, HP.out.set _, HS2.out _ (HB.out.keep kset (fun b hb hm => HNE.out b hb (by simpa using hm))), kset, by simp [World.setCell], HS2.out⟩

end Go.Proofs.YthgpjlmdllihmaaGreat
/- Titles and rows: records taken apart. -/
namespace Go.Proofs.YthgpjlmdllihmaaGreat
open Go.RowKit Go.Shelf
set_option linter.unusedVariables false
set_option linter.unusedSimpArgs false
set_option maxRecDepth 100000

theorem number_box (p : Nat) (A : Option Addr) (c : Nat) (xs : List UInt8) (w : World) (hp : Boxed w p 129 (.slice A xs.length c)) (hb : BytesAt w (.slice A xs.length c) xs) (h4 : 4 ≤ xs.length) :
    Calls Tryz.prog 73 #[.pointer (some ⟨p, 0, none⟩)] w fun e w' => ∃ B d, e = .returned (.int .u32 (num4 xs : Nat)) ∧ Boxed w' p 129 (.slice B (xs.drop 4).length d) ∧ BytesAt w' (.slice B (xs.drop 4).length d) (xs.drop 4) ∧ Keeps [p] w w' ∧ w'.heap.size = w.heap.size := by
  refine (number_is p A xs.length c xs w hp rfl hb h4).mono ?_
  rintro e w' ⟨B, d, h1, h2, h3, h4, h5, _⟩
  rw [List.length_drop]
  exact ⟨B, d, h1, h2, h3, h4, h5⟩

/-- titleIn: a title is eight bytes. -/
theorem title_no (A : Option Addr) (n c : Nat) (w : World) (h : n ≠ 8) (hm : n ≤ 9223372036854775807) : Calls Tryz.prog 56 #[.slice A n c] w fun e w' => e = .returned (.tuple #[.agg #[.int .u32 0, .int .u32 0], .bool false]) ∧ Keeps [] w w' := by
  have K : Keeps [] w ((w.alloc (.cells #[.int .u32 0, .int .u32 0] 113)).alloc (.cells #[.slice A n c] 129)) := ((Keeps.refl [] w).alloc _).alloc _
  have b0 : ((w.alloc (.cells #[.int .u32 0, .int .u32 0] 113)).alloc (.cells #[.slice A n c] 129)).heap[w.heap.size]? = some (.cells #[.int .u32 0, .int .u32 0] 113 (0, 0)) := blk_keep (heap_alloc_new w (.cells #[.int .u32 0, .int .u32 0] 113)) ((Keeps.refl [] _).alloc _) (by simp)
  go_enter Tryz.func56, Tryz.ntmps56
  go_wp2_with fail
  refine bodyPost_ret (res_cell_tmp rfl _ _ rfl (load_agg2 Tryz.isAgg113 Tryz.sizeOf113 (cell_of_blk b0 0) (cell_of_blk b0 1))) rfl ⟨rfl, K⟩

theorem title_yes (A : Option Addr) (c : Nat) (xs : List UInt8) (w : World) (h : xs.length = 8) (hb : BytesAt w (.slice A 8 c) xs) : Calls Tryz.prog 56 #[.slice A 8 c] w fun e w' => e = .returned (.tuple #[.agg #[.int .u32 (num4 xs : Nat), .int .u32 (num4 (xs.drop 4) : Nat)], .bool true]) ∧ Keeps [] w w' := by
  have hb1 := (hb.grow ((Keeps.refl [] w).alloc (.cells #[.int .u32 0, .int .u32 0] 113))).grow ((Keeps.refl [] _).alloc (.cells #[.slice A 8 c] 129))
  have b0 : ((w.alloc (.cells #[.int .u32 0, .int .u32 0] 113)).alloc (.cells #[.slice A 8 c] 129)).heap[w.heap.size]? = some (.cells #[.int .u32 0, .int .u32 0] 113 (0, 0)) := blk_keep (heap_alloc_new w (.cells #[.int .u32 0, .int .u32 0] 113)) ((Keeps.refl [] _).alloc _) (by simp)
  have b1 := Boxed.new (w.alloc (.cells #[.int .u32 0, .int .u32 0] 113)) 129 (.slice A 8 c)
  rw [World.size_alloc] at b1
  have H1 := Lib.hid (number_is (w.heap.size + 1) A 8 c xs _ b1 h hb1 (by omega))
  have K0 : Hid (Keeps [] w ((w.alloc (.cells #[.int .u32 0, .int .u32 0] 113)).alloc (.cells #[.slice A 8 c] 129))) := ((Keeps.refl [] w).alloc _).alloc _
  have B0 := Lib.hid b0
  have HX := Lib.hid (show (xs.drop 4).length = 4 by rw [List.length_drop]; omega)
  clear hb hb1 b1 b0 h
  go_enter Tryz.func56, Tryz.ntmps56
  go_wp2_with fail
  refine H1.out.mono ?_
  rintro e w1 ⟨B, d, rfl, hp1, hb1, hk1, hs1, _⟩
  have H2 := Lib.hid (number_is (w.heap.size + 1) B 4 d (xs.drop 4) w1 hp1 HX.out hb1 (by omega))
  have B1 := Lib.hid (blk_keep B0.out hk1 (by simp))
  have K1 := Lib.hid (K0.out.trans hk1 (fun x hx => .inr (by simp at hx; omega)))
  clear hp1 hb1 hk1
  go_wp2_with fail
  refine H2.out.mono ?_
  rintro e w2 ⟨B', d', rfl, hp2, hb2, hk2, hs2, _⟩
  have B2 := blk_keep B1.out hk2 (by simp)
  have c0 := cell_of_blk B2 0
  have c1 := cell_of_blk B2 1
  have f0 := free_of_blk B2 0
  have f1 := free_of_blk B2 1
  simp only [List.getElem?_toArray, List.getElem?_cons_zero, List.getElem?_cons_succ] at c0 c1
  have HB2 := Lib.hid B2
  have K2 := Lib.hid (K1.out.trans hk2 (fun x hx => .inr (by simp at hx; omega)))
  clear hp2 hb2 hk2 B2
  go_wp2_with fail
  have b3 := blk_set (blk_set HB2.out 0 (.int .u32 (num4 xs : Nat))) 1 (.int .u32 (num4 (xs.drop 4) : Nat))
  refine bodyPost_ret (res_cell_tmp rfl _ _ rfl (load_agg2 Tryz.isAgg113 Tryz.sizeOf113 (cell_of_blk b3 0) (cell_of_blk b3 1))) rfl ⟨rfl, ?_⟩
  exact (K2.out.setCell (p := ⟨w.heap.size, 0, none⟩) (.inr (Nat.le_refl _)) _).setCell (p := ⟨w.heap.size, 1, none⟩) (.inr (Nat.le_refl _)) _

end Go.Proofs.YthgpjlmdllihmaaGreat
