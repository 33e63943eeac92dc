/- Texts of one proof, laid together: U11 U12. -/
import Derived.Test.YthgpjlmdllihmaaGreatM15
import Derived.Deep.RegionHeld
import Derived.Maps.OwnIn
/- Rows: records taken apart. -/
namespace Go.Proofs.YthgpjlmdllihmaaGreat
open Go.RowKit Go.Shelf
set_option linter.unusedVariables false
set_option linter.unusedSimpArgs false
set_option maxRecDepth 100000

/-- How many bytes of a record are its key. -/
def keyN (xs : List UInt8) : Nat := min (num4 xs) 201
def keyP (xs : List UInt8) : List UInt8 := (xs.drop 4).take (keyN xs)
def valP (xs : List UInt8) : List UInt8 := (xs.drop 4).drop (keyN xs)
def okKey (k : List UInt8) : Bool := decide (1 ≤ k.length) && decide (k.length ≤ 200)
def okVal (v : List UInt8) : Bool := decide (v.length ≤ 8192)
def isRow (xs : List UInt8) : Bool := decide (4 ≤ xs.length) && (decide (keyN xs ≤ xs.length - 4) && (okKey (keyP xs) && okVal (valP xs)))

theorem slice_to (A : Option Addr) (n c k : Nat) (hk : k ≤ c) (hkn : k ≤ n) : ∃ B, (∀ W, (Instr.slice 55 (.slice A n c) none (some (.int .i64 (k : Int))) none).run Tryz.prog W = .ok (.slice B k c) W) ∧ ∀ W xs, xs.length = n → BytesAt W (.slice A n c) xs → BytesAt W (.slice B k c) (xs.take k) := by
  refine ⟨if c = 0 then A else A.map (·.add 0), fun W => ?_, fun W xs hxn h => ?_⟩
  · rw [run_slice_h W 55 A n c (by simp [Program.elem, Tryz.underlying55]) .i64 _ (by omega) (by omega)]
    rw [show Tryz.prog.elem 55 = 5 by simp [Program.elem, Tryz.underlying55], Tryz.sizeOf5]
    simp [Result.andThen, sliced]
  · obtain ⟨A', c', he, h1, h2, h3⟩ := h
    injection he with e1 e2 e3
    subst e1
    subst e3
    have hl : (xs.take k).length = k := by rw [List.length_take]; omega
    refine ⟨_, _, by rw [hl], by rw [hl]; omega, h2, fun h0 => ?_⟩
    obtain ⟨b, o, hb, hc⟩ := h3 (by omega)
    subst hb
    refine ⟨b, o, by rw [if_neg (by omega)]; simp [add_at], fun i x hx => hc i x ?_⟩
    rw [List.getElem?_take] at hx
    split at hx
    · exact hx
    · cases hx

def noRow : Value := .tuple #[.string ⟨#[]⟩, .agg #[.string ⟨#[]⟩], .bool false]
def aRow (k v : List UInt8) : Value := .tuple #[sv k, .agg #[sv v], .bool true]

theorem goto_row {w w2 : World} (b0 : w2.heap[w.heap.size]? = some (.cells #[.string ⟨#[]⟩] 73 (0, 0))) : (loadVar 73 ⟨w.heap.size, 0, none⟩).run Tryz.prog w2 = .ok (.agg #[.string ⟨#[]⟩]) w2 :=
  load_agg1 Tryz.isAgg73 Tryz.sizeOf73 (cell_of_blk b0 0)

theorem rowin_short (A : Option Addr) (n c : Nat) (w : World) (h : n < 4) : Calls Tryz.prog 75 #[.slice A n c] w fun e w' => e = .returned noRow ∧ Keeps [] w w' := by
  have K : Keeps [] w ((w.alloc (.cells #[.string ⟨#[]⟩] 73)).alloc (.cells #[.slice A n c] 129)) := ((Keeps.refl [] w).alloc _).alloc _
  have b0 : ((w.alloc (.cells #[.string ⟨#[]⟩] 73)).alloc (.cells #[.slice A n c] 129)).heap[w.heap.size]? = some (.cells #[.string ⟨#[]⟩] 73 (0, 0)) := blk_keep (heap_alloc_new w (.cells #[.string ⟨#[]⟩] 73)) ((Keeps.refl [] _).alloc _) (by simp)
  go_enter Tryz.func75, Tryz.ntmps75
  go_wp2
  refine wp_scope_once 0 rfl ?_
  go_wp2_with fail
  go_step3
  refine ⟨rfl, ?_⟩
  go_wp2
  rw [Exit.noGoto_ret]
  refine bodyPost_ret (res_tct rfl _ _ rfl (goto_row b0)) rfl ⟨rfl, K⟩

theorem rowin_long (A : Option Addr) (c : Nat) (xs : List UInt8) (w : World) (h : 4 ≤ xs.length) (hb : BytesAt w (.slice A xs.length c) xs) : Calls Tryz.prog 75 #[.slice A xs.length c] w fun e w' => e = .returned (if isRow xs then aRow (keyP xs) (valP xs) else noRow) ∧ Keeps [] w w' := by
  have hm := (cap_of_bytes hb).2.1
  have hnc := (cap_of_bytes hb).1
  have hb1 := (hb.grow ((Keeps.refl [] w).alloc (.cells #[.string ⟨#[]⟩] 73))).grow ((Keeps.refl [] _).alloc (.cells #[.slice A xs.length c] 129))
  have b0 : ((w.alloc (.cells #[.string ⟨#[]⟩] 73)).alloc (.cells #[.slice A xs.length c] 129)).heap[w.heap.size]? = some (.cells #[.string ⟨#[]⟩] 73 (0, 0)) := blk_keep (heap_alloc_new w (.cells #[.string ⟨#[]⟩] 73)) ((Keeps.refl [] _).alloc _) (by simp)
  have b1 := Boxed.new (w.alloc (.cells #[.string ⟨#[]⟩] 73)) 129 (.slice A xs.length c)
  rw [World.size_alloc] at b1
  have H1 := Lib.hid (number_is (w.heap.size + 1) A xs.length c xs _ b1 rfl hb1 h)
  have K0 : Hid (Keeps [] w ((w.alloc (.cells #[.string ⟨#[]⟩] 73)).alloc (.cells #[.slice A xs.length c] 129))) := ((Keeps.refl [] w).alloc _).alloc _
  have B0 := Lib.hid b0
  have hnl := num4_lt xs
  have HIS : Hid (isRow xs = (decide (keyN xs ≤ xs.length - 4) && (okKey (keyP xs) && okVal (valP xs)))) := by
    show _ = _
    simp [isRow, h]
  have hk2 : keyN xs ≤ 201 := Nat.min_le_right _ _
  generalize hR : (if isRow xs then aRow (keyP xs) (valP xs) else noRow) = R
  have HR := Lib.hid hR
  clear hb hb1 b1 b0 hR
  go_enter Tryz.func75, Tryz.ntmps75
  go_wp2
  refine wp_scope_once 0 rfl ?_
  go_wp2_with fail
  refine H1.out.mono ?_
  rintro e w1 ⟨B, d, rfl, hp1, hb1, hk1, hs1, _⟩
  have hcap := (cap_of_bytes hb1).1
  have hcap2 := (cap_of_bytes hb1).2.1
  have q0 := hp1.cell
  have B1 := Lib.hid (blk_keep B0.out hk1 (by simp))
  have K1 := Lib.hid (K0.out.trans hk1 (fun x hx => .inr (by simp at hx; omega)))
  have HB1 := Lib.hid hb1
  have HP1 := Lib.hid hp1
  clear hk1 hp1 hb1
  have hdl : (xs.drop 4).length = xs.length - 4 := List.length_drop
  have hmin : min ((num4 xs : Nat) : Int) 201 = ((keyN xs : Nat) : Int) := by unfold keyN; omega
  have rc := cell_of_blk B1.out 0
  have rf := free_of_blk B1.out 0
  simp only [List.getElem?_toArray, List.getElem?_cons_zero] at rc
  by_cases hlong : keyN xs ≤ xs.length - 4
  · obtain ⟨B2, hs2, hbs2⟩ := slice_to B (xs.length - 4) d (keyN xs) (by omega) hlong
    obtain ⟨B3, d3, hs3, hbs3⟩ := slice_from B (xs.length - 4) d (keyN xs) (xs.drop 4) hdl hcap hcap2 hlong (fun h => by
      obtain ⟨b, o, h9, _⟩ := bytes_addr HB1.out (by omega)
      exact ⟨b, o, h9⟩)
    have v2 := conv_bytes (w := w1.drew) (hbs2 _ _ hdl (HB1.out.grow (Keeps.refl [] w1).drew))
    have v3 := conv_bytes (w := w1.drew) (hbs3 _ (HB1.out.grow (Keeps.refl [] w1).drew))
    have lk : (keyP xs).length ≤ 9223372036854775807 := by unfold keyP; rw [List.length_take]; omega
    have lv : (valP xs).length ≤ 9223372036854775807 := by unfold valP; rw [List.length_drop]; omega
    have HKY := Lib.hid (fun W => maybekey_is (keyP xs) W lk)
    have HVL := Lib.hid (fun W => maybevalue_is (valP xs) W lv)
    rw [show (xs.drop 4).take (keyN xs) = keyP xs from rfl] at v2
    rw [show (xs.drop 4).drop (keyN xs) = valP xs from rfl] at v3
    rw [show (decide (keyN xs ≤ xs.length - 4) && (okKey (keyP xs) && okVal (valP xs))) = (okKey (keyP xs) && okVal (valP xs)) by rw [decide_eq_true hlong]; rfl] at HIS
    have e1 : (decide (1 ≤ (keyP xs).length) && decide ((keyP xs).length ≤ 200)) = okKey (keyP xs) := rfl
    have e2 : decide ((valP xs).length ≤ 8192) = okVal (valP xs) := rfl
    rw [e1] at HKY
    rw [e2] at HVL
    have hr := HR.out
    rw [HIS.out] at hr
    have HR2 := Lib.hid hr
    clear hbs2 hbs3 HIS hr e1 e2 HR lk lv
    generalize keyP xs = key at *
    generalize valP xs = val at *
    generalize keyN xs = kn at *
    have hkl : (kn : Int) ≤ ((xs.length - 4 : Nat) : Int) := by omega
    go_wp2_with fail
    go_region_held (fun w' => w'.cell? ⟨w.heap.size + 1, 0, none⟩ = some (.slice B (xs.length - 4) d) ∧ (convert 55 9 (.slice B2 kn d)).run Tryz.prog w' = .ok (.string ⟨key.toArray⟩) w' ∧ (convert 55 9 (.slice B3 (xs.length - 4 - kn) d3)).run Tryz.prog w' = .ok (.string ⟨val.toArray⟩) w') (first | exact ⟨q0, v2, v3⟩ | go_keep) (fail)
    have rc2 : w1.drew.cell? ⟨w.heap.size, 0, none⟩ = some (.string ⟨#[]⟩) := rc
    have rf2 : w1.drew.frozen? ⟨w.heap.size, 0, none⟩ = false := rf
    have B1d : Hid (w1.drew.heap[w.heap.size]? = some (.cells #[.string ⟨#[]⟩] 73 (0, 0))) := B1
    have K1d := Lib.hid K1.out.drew
    clear rc rf v2 v3 q0 hs2 hs3
    generalize w1.drew = X at *
    cases hkk : okKey key
    · rw [hkk] at HKY HR2
      have HF : Hid (R = noRow) := by show _ = _; rw [← HR2.out]; rfl
      go_wp2_with (go_at_call 58; refine (HKY.out _).mono ?_; rintro e w' ⟨rfl, rfl⟩)
      go_step3
      refine ⟨rfl, ?_⟩
      go_wp2
      rw [Exit.noGoto_ret]
      refine bodyPost_ret (res_tct rfl _ _ rfl (goto_row (blk_set B1d.out 0 _))) rfl ⟨by rw [HF.out]; rfl, K1d.out.setCell (p := ⟨w.heap.size, 0, none⟩) (.inr (Nat.le_refl _)) _⟩
    · rw [hkk] at HKY HR2
      cases hvv : okVal val
      · rw [hvv] at HVL HR2
        have HF : Hid (R = noRow) := by show _ = _; rw [← HR2.out]; rfl
        go_wp2_with (first
          | (go_at_call 58; refine (HKY.out _).mono ?_; rintro e w' ⟨rfl, rfl⟩)
          | (go_at_call 59; refine (HVL.out _).mono ?_; rintro e w' ⟨rfl, rfl⟩))
        go_step3
        refine ⟨rfl, ?_⟩
        go_wp2
        rw [Exit.noGoto_ret]
        refine bodyPost_ret (res_tct rfl _ _ rfl (goto_row (blk_set B1d.out 0 _))) rfl ⟨by rw [HF.out]; rfl, K1d.out.setCell (p := ⟨w.heap.size, 0, none⟩) (.inr (Nat.le_refl _)) _⟩
      · rw [hvv] at HVL HR2
        have HF : Hid (R = aRow key val) := by show _ = _; rw [← HR2.out]; rfl
        go_wp2_with (first
          | (go_at_call 58; refine (HKY.out _).mono ?_; rintro e w' ⟨rfl, rfl⟩)
          | (go_at_call 59; refine (HVL.out _).mono ?_; rintro e w' ⟨rfl, rfl⟩))
        simp only [Exit.jump]
        refine bodyPost_ret (res_tct rfl _ _ rfl (load_agg1 Tryz.isAgg73 Tryz.sizeOf73 (cell_of_blk (blk_set B1d.out 0 (sv val)) 0))) rfl ⟨by rw [HF.out]; rfl, K1d.out.setCell (p := ⟨w.heap.size, 0, none⟩) (.inr (Nat.le_refl _)) _⟩
  · have HF : Hid (R = noRow) := by
      show _ = _
      rw [← HR.out, HIS.out]
      simp [hlong]
    generalize keyN xs = kn at *
    go_wp2_with fail
    go_step3
    refine ⟨rfl, ?_⟩
    go_wp2
    rw [Exit.noGoto_ret]
    refine bodyPost_ret (res_tct rfl _ _ rfl (goto_row (blk_set B1.out 0 _))) rfl ⟨by rw [HF.out]; rfl, K1.out.setCell (p := ⟨w.heap.size, 0, none⟩) (.inr (Nat.le_refl _)) _⟩

theorem rowin_is (A : Option Addr) (n c : Nat) (xs : List UInt8) (w : World) (hn : xs.length = n) (hb : BytesAt w (.slice A n c) xs) : Calls Tryz.prog 75 #[.slice A n c] w fun e w' => e = .returned (if isRow xs then aRow (keyP xs) (valP xs) else noRow) ∧ Keeps [] w w' := by
  subst hn
  by_cases h : 4 ≤ xs.length
  · exact rowin_long A c xs w h hb
  · have : isRow xs = false := by simp [isRow, h]
    rw [this]
    exact rowin_short A xs.length c w (by omega)

end Go.Proofs.YthgpjlmdllihmaaGreat
/- The rows that bytes begin with. -/
namespace Go.Proofs.YthgpjlmdllihmaaGreat
open Go.RowKit Go.Shelf Go.Maps Go.ChangeMaps Go.MapKept
set_option linter.unusedVariables false
set_option linter.unusedSimpArgs false
set_option maxRecDepth 100000
attribute [local go_sem] Oper.semAt_some

/-- The table of some records, as many as there may be. -/
def rowsGo (many : Nat) : List (List UInt8) → Tab → Option Tab
  | [], T => some T
  | r :: rs, T => if T.length = many then some T else if isRow r && !thas T (keyP r) then rowsGo many rs (tput T (keyP r) (valP r)) else none
/-- The table that bytes begin with. -/
def rowsP (many : Nat) (xs : List UInt8) : Option Tab := rowsGo many (recs xs) []
/-- .. and is it one? -/
def rowsOk (many : Nat) (xs : List UInt8) : Bool := match rowsP many xs with | none => false | some T => decide (T.length = many) && decide (many ≤ 200)

theorem rowsGo_stop {many : Nat} {rs : List (List UInt8)} {T : Tab} (h : T.length = many) : rowsGo many rs T = some T := by
  cases rs with
  | nil => rfl
  | cons r rs => simp [rowsGo, h]
theorem rowsGo_next {many k : Nat} {l : List (List UInt8)} {r : List UInt8} {T : Tab} (hr : l[k]? = some r) (h : T.length ≠ many) : rowsGo many (l.drop k) T = if isRow r && !thas T (keyP r) then rowsGo many (l.drop (k + 1)) (tput T (keyP r) (valP r)) else none := by
  obtain ⟨hk, hx⟩ := List.getElem?_eq_some_iff.1 hr
  rw [List.drop_eq_getElem_cons hk, hx]
  simp only [rowsGo, if_neg h]
theorem rowsGo_end {many k : Nat} {l : List (List UInt8)} {T : Tab} (h : l.length ≤ k) : rowsGo many (l.drop k) T = some T := by
  rw [List.drop_of_length_le h]
  rfl

structure RowsI (w : World) (mv b : Nat) (T : Tab) (X : World) : Prop where
  m : Boxed X w.heap.size 58 (.int .u32 (mv : Int))
  r : Boxed X (w.heap.size + 1) 60 (.map none)
  o : Boxed X (w.heap.size + 1 + 1) 4 (.bool false)
  t : Boxed X (w.heap.size + 1 + 1 + 1 + 1) 60 (.map (some b))
  map : MapAt X b T
  bel : Below w.heap.size w X

theorem MapAt.kept {m b : Nat} {X Y : World} {T : Tab} (h : MapAt X b T) (hk : Kept m X Y) (hb : b < m) : MapAt Y b T := by
  obtain ⟨es, clock, h1, h2⟩ := h
  exact ⟨es, clock, hk.block b _ h1 (.inl hb), h2⟩

theorem RowsI.under {w : World} {mv b m : Nat} {T : Tab} (hw : w.heap.size ≤ m) (hb : b < m) : Under m (RowsI w mv b T) := fun X Y h hk =>
  ⟨boxed_under X Y h.m hk, boxed_under X Y h.r hk, boxed_under X Y h.o hk, boxed_under X Y h.t hk, h.map.kept hk hb, h.bel.trans ((hk.mono hw).below h.bel.size)⟩
theorem RowsI.keeps {w : World} {mv b : Nat} {T : Tab} {X Y : World} (h : RowsI w mv b T X) (hk : Keeps [] X Y) : RowsI w mv b T Y :=
  ⟨boxed_keeps h.m hk, boxed_keeps h.r hk, boxed_keeps h.o hk, boxed_keeps h.t hk, h.map.keep hk (by simp), h.bel.trans (hk.below h.bel.size (by simp))⟩
theorem RowsI.put {w : World} {mv b : Nat} {T S : Tab} {X Y : World} (h : RowsI w mv b T X) (hk : Keeps [b] X Y) (hm : MapAt Y b S) (hb : b = w.heap.size + 1 + 1 + 1) : RowsI w mv b S Y := by
  have k : ∀ {g : Nat} {t : TypeId} {v : Value}, Boxed X g t v → g ≠ b → Boxed Y g t v := fun hx hg => (hk.block _ hx.lt (by simpa using hg)).trans hx
  exact ⟨k h.m (by omega), k h.r (by omega), k h.o (by omega), k h.t (by omega), hm, h.bel.trans (hk.below h.bel.size (by simp; omega))⟩

/-- What the results are behind a record that is no row. -/
structure RowsX (w : World) (X : World) : Prop where
  r : Boxed X (w.heap.size + 1) 60 (.map none)
  o : Boxed X (w.heap.size + 1 + 1) 4 (.bool false)
  bel : Below w.heap.size w X
theorem RowsX.under {w : World} {m : Nat} (hw : w.heap.size ≤ m) : Under m (RowsX w) := fun X Y h hk =>
  ⟨boxed_under X Y h.r hk, boxed_under X Y h.o hk, h.bel.trans ((hk.mono hw).below h.bel.size)⟩

theorem RowsI.ret {w : World} {mv b m : Nat} {T : Tab} {X Y : World} (h : RowsI w mv b T X) (hk : Keeps [] X Y) (hm : w.heap.size + 1 + 1 < m) :
    RowsX w ((Y.setCell ⟨w.heap.size + 1, 0, none⟩ (.map none)).setCell ⟨w.heap.size + 1 + 1, 0, none⟩ (.bool false)) ∧ Over m X ((Y.setCell ⟨w.heap.size + 1, 0, none⟩ (.map none)).setCell ⟨w.heap.size + 1 + 1, 0, none⟩ (.bool false)) := by
  have r := boxed_keeps h.r hk
  have o := boxed_keeps h.o hk
  have k2 : Keeps [w.heap.size + 1, w.heap.size + 1 + 1] Y ((Y.setCell ⟨w.heap.size + 1, 0, none⟩ (.map none)).setCell ⟨w.heap.size + 1 + 1, 0, none⟩ (.bool false)) := ((Keeps.refl _ Y).setCell (.inl (by simp)) _).setCell (.inl (by simp)) _
  refine ⟨⟨(r.set (.map none)).other (by omega) _, (o.other (by omega) _).set (.bool false), (h.bel.trans (hk.below h.bel.size (by simp))).trans (k2.below (by have := h.bel.size; have := hk.size; omega) (by simp; omega))⟩, (Over.of_keeps hk).trans (Over.of_some k2 (by simp; omega))⟩

theorem recs_few (xs : List UInt8) : (recs xs).length ≤ xs.length := by
  have h1 := offs_le xs (recs xs).length
  rw [List.take_length] at h1
  have h2 : ∀ l : List (List UInt8), l.length ≤ offs l := fun l => by
    induction l with
    | nil => simp [offs]
    | cons r l ih => rw [offs_cons]; simp; omega
  have := h2 (recs xs)
  omega

end Go.Proofs.YthgpjlmdllihmaaGreat
