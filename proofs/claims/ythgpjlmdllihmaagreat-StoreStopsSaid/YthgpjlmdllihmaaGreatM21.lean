/- Texts of one proof, laid together: U21 U22. -/
import Derived.Test.YthgpjlmdllihmaaGreatM20
import Derived.Test.YthgpjlmdllihmaaGreatM05
import Derived.Test.YthgpjlmdllihmaaGreatM19
/- bytesOf and framed. -/
namespace Go.Proofs.YthgpjlmdllihmaaGreat
open Go.RowKit Go.Shelf
set_option linter.unusedVariables false
set_option linter.unusedSimpArgs false
set_option maxRecDepth 100000

theorem bytesof_is (h : Nat) (w : World) (hl : h < 4294967296) : Calls Tryz.prog 77 #[.int .u32 (h : Int)] w fun e w' => e = .returned (.slice (some ⟨w.heap.size, 0, none⟩) 4 4) ∧ w' = w.alloc (.cells ((four h).map bv).toArray 5) := by
  have e4 := wcs_four hl
  rw [← e4]
  clear e4
  have e1 : (h : Int) / 16777216 % 256 = (h : Int) / 16777216 := by omega
  unfold wcs
  go_enter Tryz.func77, Tryz.ntmps77
  go_wp2_with fail
  go_ret
  refine ⟨rfl, ?_⟩
  rw [← e1]

/-- .. its bytes. -/
theorem bytesof_at (h : Nat) (w : World) (hl : h < 4294967296) : Calls Tryz.prog 77 #[.int .u32 (h : Int)] w fun e w' => e = .returned (.slice (some ⟨w.heap.size, 0, none⟩) 4 4) ∧ BytesAt w' (.slice (some ⟨w.heap.size, 0, none⟩) 4 4) (four h) ∧ Keeps [] w w' := by
  refine (bytesof_is h w hl).mono ?_
  rintro e w' ⟨rfl, rfl⟩
  exact ⟨rfl, row_at w (four h) (0, 0) (by simp [four_len]), (Keeps.refl [] w).alloc _⟩

theorem framedS_is (b o n c : Nat) (vs : List Value) (ls : List (List UInt8)) (w : World) (hn : ls.length = n) (h2 : 2 ≤ n) (h3 : n ≤ 1000) (hc : n ≤ c) (hP : Lib.PartsAt w ⟨b, o, none⟩ vs ls) (h0 : 0 < ls.flatten.length) (hl : ls.flatten.length ≤ 32768) :
    Calls Tryz.prog 76 #[.slice (some ⟨b, o, none⟩) n c] w fun e w' => ∃ g cp, e = .returned (.slice (some ⟨g, 0, none⟩) (ls.flatten.length + 12) cp) ∧ w.heap.size ≤ g ∧ Mine w' g cp (frameOf ls.flatten) ∧ Keeps [] w w' := by
  have hlen : Lib.lens ls = ls.flatten.length := by
    rw [List.length_flatten]
    rfl
  have h := Any.bytes_Join_many join_lays b o n c vs ls (.slice none 0 0) [] w hn h2 hP hc ⟨none, 0, rfl, fun _ => rfl, fun a ha => by cases ha⟩ (by omega) (by simp only [List.length_nil, Nat.mul_zero, Nat.add_zero]; omega)
  have hj : Lib.join ls [] = ls.flatten := by
    cases ls with
    | nil => simp at hn; omega
    | cons x r => rw [Lib.join_cons]; simp [Lib.joinTail]
  rw [hj] at h
  have H := Lib.hid h
  clear h hP hlen hj
  generalize ls.flatten = xs at *
  go_enter Tryz.func76, Tryz.ntmps76
  go_wp2_with fail
  refine H.out.mono ?_
  rintro e w1 ⟨v', rfl, h2, h3⟩
  obtain ⟨g, cp, rfl, hg, hM⟩ := mine_of_fresh h2 h0
  have HF := Lib.hid (frame_ok (some ⟨g, 0, none⟩) xs.length cp xs w1 rfl hM.bytes hl)
  have HK : Hid (Keeps [] w w1) := Keeps.of_below h3
  clear h2 h3 hM H
  go_wp2_with fail
  refine HF.out.mono ?_
  rintro e w2 ⟨g2, cp2, rfl, hg2, hM2, hk2⟩
  have hz := HK.out.size
  have HM := Lib.hid hM2
  have HK2 := Lib.hid (HK.out.trans' hk2)
  clear hM2 hk2 HF
  go_wp2_with fail
  go_ret
  exact ⟨g2, cp2, rfl, by omega, HM.out, HK2.out⟩

end Go.Proofs.YthgpjlmdllihmaaGreat
/- The parts of an image, as they are gathered. -/
namespace Go.Proofs.YthgpjlmdllihmaaGreat
open Go.RowKit Go.Shelf
set_option linter.unusedVariables false
set_option linter.unusedSimpArgs false
set_option maxRecDepth 100000

theorem bytes_infoS : (Tryz.prog.info? 55).map (fun i => (i.zero, i.size, i.bytes)) = some (some (.slice none 0 0), 1, 24) := by kernel_rfl
theorem grown_ownS {w w' : World} {base : Nat} {e : TypeId} {k n : Nat} {v : Value} {xs : List Value} (h : w.ownsRow base e k v n xs) (hg : w.grownBy w' v.ownBlock) : Keeps v.ownBlock.toList w w' := Keeps.of_grown hg (fun x hx => .inl (by simp [hx]))
theorem keeps_ownS {w a b : World} {e : TypeId} {k n : Nat} {v : Value} {xs : List Value} (h : a.ownsRow w.heap.size e k v n xs) (hk : Keeps [] w a) (hg : a.grownBy b v.ownBlock) : Keeps [] w b :=
  hk.trans (grown_ownS h hg) (fun x hx => .inr (h.lt x (by simpa using hx)).1)
theorem src_oneS (w : World) (v : Value) (t : TypeId) : Src (w.alloc (.cells #[v] t)) (some ⟨w.heap.size, 0, none⟩) 1 [v] := by
  refine ⟨(fun h => by cases h), fun ad hA j u hu => ?_⟩
  cases hA
  rw [add_at, Nat.zero_add, World.cell?_alloc_new]
  simpa using hu

theorem hb_keep {X Y : World} {bs : List Nat} {v : Value} {l : List UInt8} (h : Lib.HoldsBytes X v l) (hk : Keeps bs X Y) (hb : ∀ b, v.ownBlock = some b → b ∉ bs) : Lib.HoldsBytes Y v l := by
  obtain ⟨p, c, rfl, e2, e3⟩ := h
  refine ⟨p, c, rfl, e2, fun a ha i x hx => ?_⟩
  subst ha
  have h1 := e3 a rfl i x hx
  have hab : (a.add i).block = a.block := by unfold Addr.add; split <;> rfl
  exact (hk.cell (lt_of_cell h1) (by rw [hab]; exact hb _ rfl)).trans h1
theorem hb_grow {X Y : World} {v : Value} {l : List UInt8} (h : Lib.HoldsBytes X v l) (hk : Keeps [] X Y) : Lib.HoldsBytes Y v l := hb_keep h hk (by simp)
theorem hb_al {X : World} {v : Value} {l : List UInt8} (o : Obj) (h : Lib.HoldsBytes X v l) : Lib.HoldsBytes (X.alloc o) v l := hb_grow h ((Keeps.refl [] X).alloc o)
theorem hb_dr {X : World} {v : Value} {l : List UInt8} (h : Lib.HoldsBytes X v l) : Lib.HoldsBytes X.drew v l := hb_grow h (Keeps.refl [] X).drew

/-- Bytes that a text was turned into. -/
theorem conv_holds (W : World) (k : List UInt8) (c g : Nat) (hg : g = W.heap.size) {t : TypeId} {fz : Nat × Nat} : Lib.HoldsBytes (W.alloc (.cells (bytesRow ⟨k.toArray⟩ c) t fz)) (.slice (some ⟨g, 0, none⟩) k.length c) k := by
  subst hg
  refine ⟨_, c, rfl, (fun h => by cases h), fun a ha i x hx => ?_⟩
  injection ha with ha
  subst ha
  have hi : i < k.length := (List.getElem?_eq_some_iff.1 hx).1
  rw [add_at, Nat.zero_add]
  unfold World.cell?
  rw [heap_alloc_new' W (.cells (bytesRow ⟨k.toArray⟩ c) t fz)]
  simp only [bytesRow, List.map_toArray]
  rw [Array.getElem?_append_left (by simpa using hi)]
  simp [hx]

/-- Three parts in a row of their own. -/
theorem parts_three {w : World} {v1 v2 v3 : Value} {l1 l2 l3 : List UInt8} {t : TypeId} {g : Nat} (hg : g = w.heap.size) (h1 : Lib.HoldsBytes w v1 l1) (h2 : Lib.HoldsBytes w v2 l2) (h3 : Lib.HoldsBytes w v3 l3) :
    Lib.PartsAt (w.alloc (.cells #[v1, v2, v3] t)) ⟨g, 0, none⟩ [v1, v2, v3] [l1, l2, l3] := by
  subst hg
  refine ⟨rfl, fun i v hv => ?_, fun i v l hv hl => ?_⟩
  · rw [add_at, Nat.zero_add, World.cell?_alloc_new]
    simpa using hv
  · match i with
    | 0 => simp at hv hl; subst hv hl; exact hb_al _ h1
    | 1 => simp at hv hl; subst hv hl; exact hb_al _ h2
    | 2 => simp at hv hl; subst hv hl; exact hb_al _ h3
    | i + 3 => simp at hv
theorem parts_dr {X : World} {a : Addr} {vs : List Value} {ls : List (List UInt8)} (h : Lib.PartsAt X a vs ls) : Lib.PartsAt X.drew a vs ls := ⟨h.1, h.2.1, fun i v l hv hl => hb_dr (h.2.2 i v l hv hl)⟩
theorem parts_two {w : World} {v1 v2 : Value} {l1 l2 : List UInt8} {t : TypeId} {g : Nat} (hg : g = w.heap.size) (h1 : Lib.HoldsBytes w v1 l1) (h2 : Lib.HoldsBytes w v2 l2) :
    Lib.PartsAt (w.alloc (.cells #[v1, v2] t)) ⟨g, 0, none⟩ [v1, v2] [l1, l2] := by
  subst hg
  refine ⟨rfl, fun i v hv => ?_, fun i v l hv hl => ?_⟩
  · rw [add_at, Nat.zero_add, World.cell?_alloc_new]
    simpa using hv
  · match i with
    | 0 => simp at hv hl; subst hv hl; exact hb_al _ h1
    | 1 => simp at hv hl; subst hv hl; exact hb_al _ h2
    | i + 2 => simp at hv
theorem four_holds (w : World) (n g : Nat) (hg : g = w.heap.size) : Lib.HoldsBytes (w.alloc (.cells ((four n).map bv).toArray 5)) (.slice (some ⟨g, 0, none⟩) 4 4) (four n) := by
  subst hg
  exact holds_of_bytes (row_at w (four n) (0, 0) (by simp [four_len]))

theorem tget_at {T : Tab} (hr : Rising T) {j : Nat} (hj : j < T.length) : tval T (T[j]).1 = (T[j]).2 := by
  have hb : ∀ p ∈ T, p.1 = (T[j]).1 → p = T[j] := fun p hp he => by
    obtain ⟨i, hi, rfl⟩ := List.mem_iff_getElem.1 hp
    rcases Nat.lt_trichotomy i j with h | h | h
    · have := List.pairwise_iff_getElem.1 hr i j hi hj h
      rw [he, before_irrefl] at this
      cases this
    · subst h; rfl
    · have := List.pairwise_iff_getElem.1 hr j i hj hi h
      rw [he, before_irrefl] at this
      cases this
  unfold tval tget
  cases hf : T.find? (fun q => q.1 == (T[j]).1) with
  | none =>
    have := List.find?_eq_none.1 hf _ (List.getElem_mem hj)
    simp at this
  | some q =>
    have h1 := List.mem_of_find?_eq_some hf
    have h2 := List.find?_some hf
    simp at h2
    rw [hb q h1 h2]
    rfl

/-- Parts gathered: a row of its own, each of its slices with its bytes, none of them in the row. -/
structure Pts (B : Nat) (X : World) (v : Value) (vals : List Value) (ls : List (List UInt8)) : Prop where
  own : X.ownsRow B 55 1 v ls.length vals
  at_ : ∀ (i : Nat) val, vals[i]? = some val → ∃ l, ls[i]? = some l ∧ Lib.HoldsBytes X val l ∧ ∃ g, val.ownBlock = some g ∧ v.ownBlock ≠ some g ∧ g < X.heap.size

theorem Pts.keep {B : Nat} {X Y : World} {v : Value} {vals : List Value} {ls : List (List UInt8)} (h : Pts B X v vals ls) (hk : Keeps [] X Y) : Pts B Y v vals ls :=
  ⟨own_keep h.own hk (by simp), fun i val hv => by
    obtain ⟨l, h1, h2, g, h3, h4, h5⟩ := h.at_ i val hv
    exact ⟨l, h1, hb_grow h2 hk, g, h3, h4, Nat.lt_of_lt_of_le h5 hk.size⟩⟩

theorem Pts.snoc {B : Nat} {X Y : World} {v v' : Value} {vals : List Value} {ls : List (List UInt8)} {l : List UInt8} {g c : Nat} (h : Pts B X v vals ls) (hM : Lib.HoldsBytes X (.slice (some ⟨g, 0, none⟩) l.length c) l) (hg : v.ownBlock ≠ some g) (hgl : g < X.heap.size)
    (ho : Y.ownsRow B 55 1 v' (ls.length + 1) (vals ++ [.slice (some ⟨g, 0, none⟩) l.length c])) (hgr : X.grownBy Y v.ownBlock) (hs : v'.ownBlock = v.ownBlock ∨ v'.ownBlock = some X.heap.size) : Pts B Y v' (vals ++ [.slice (some ⟨g, 0, none⟩) l.length c]) (ls ++ [l]) := by
  have hk : Keeps v.ownBlock.toList X Y := grown_ownS h.own hgr
  have up : ∀ {val : Value} {l g}, Lib.HoldsBytes X val l → val.ownBlock = some g → v.ownBlock ≠ some g → g < X.heap.size → Lib.HoldsBytes Y val l ∧ ∃ g, val.ownBlock = some g ∧ v'.ownBlock ≠ some g ∧ g < Y.heap.size := fun h1 h2 h3 h4 =>
    ⟨hb_keep h1 hk (fun b hb hm => h3 (by rw [h2] at hb; injection hb with hb; subst hb; simpa using hm)), _, h2, (fun hc => by
      rcases hs with hs | hs
      · rw [hs] at hc; exact h3 hc
      · rw [hs] at hc; injection hc with hc; omega), Nat.lt_of_lt_of_le h4 hk.size⟩
  have hvl : vals.length = ls.length := by have := h.own.1; simpa using this
  refine ⟨by rw [List.length_append]; exact ho, fun i val hv => ?_⟩
  rcases Nat.lt_or_ge i vals.length with hi | hi
  · rw [List.getElem?_append_left hi] at hv
    obtain ⟨l', h1, h2, g', h3, h4, h5⟩ := h.at_ i val hv
    exact ⟨l', by rw [List.getElem?_append_left (by omega)]; exact h1, up h2 h3 h4 h5⟩
  · rw [List.getElem?_append_right hi] at hv
    have hi2 : i = vals.length := by
      have := (List.getElem?_eq_some_iff.1 hv).1
      simp at this
      omega
    subst hi2
    rw [Nat.sub_self, List.getElem?_cons_zero] at hv
    injection hv with hv
    subst hv
    exact ⟨l, by rw [List.getElem?_append_right (by omega), hvl, Nat.sub_self]; rfl, up hM rfl hg hgl⟩

theorem Pts.one {B : Nat} {X : World} {l : List UInt8} {g c : Nat} (hB : B ≤ X.heap.size) (hM : Lib.HoldsBytes X (.slice (some ⟨g, 0, none⟩) l.length c) l) (hgl : g < X.heap.size) : Pts B (X.alloc (.cells #[.slice (some ⟨g, 0, none⟩) l.length c] 55)) (.slice (some ⟨X.heap.size, 0, none⟩) 1 1) [.slice (some ⟨g, 0, none⟩) l.length c] [l] := by
  refine ⟨World.ownsRow_lit X #[.slice (some ⟨g, 0, none⟩) l.length c] 1 hB (by decide) rfl, fun i val hv => ?_⟩
  match i with
  | 0 =>
    simp at hv
    subst hv
    exact ⟨l, rfl, hb_al _ hM, g, rfl, (fun h => by simp [Value.ownBlock] at h; omega), by simp; omega⟩
  | i + 1 => simp at hv

/-- .. as bytes.Join asks for them. -/
theorem Pts.parts {B : Nat} {X : World} {v : Value} {vals : List Value} {ls : List (List UInt8)} (h : Pts B X v vals ls) (h0 : 0 < ls.length) : ∃ b c, v = .slice (some ⟨b, 0, none⟩) ls.length c ∧ ls.length ≤ c ∧ Lib.PartsAt X ⟨b, 0, none⟩ vals ls := by
  have hvl : vals.length = ls.length := by have := h.own.1; simpa using this
  rcases h.own.2 with ⟨h1, h2⟩ | ⟨g, cap, cur, h1, h2, h3, h4, h5, h6, h7⟩
  · omega
  · refine ⟨g, cap, h1, h4, hvl, fun i val hv => ?_, fun i val l hv hl => ?_⟩
    · exact h.own.cells (by rw [h1]; rfl) i val hv
    · obtain ⟨l', h8, h9, _⟩ := h.at_ i val hv
      rw [hl] at h8
      injection h8 with h8
      subst h8
      exact h9

theorem step_append_optS {P : Program} {w : World} {ops : Array Oper} {o : Oper} {a : Act} {K : Act → World → Prop} {Q : Exit → Act → World → Prop} {E : Prop} (hgd : o.guard = none) (s x : Operand) (t : TypeId)
    (ho : o.op = .call { callee := .builtin .append, args := #[s, x], argTypes := #[t, t] })
    (base : Nat) (e : TypeId) (i : TypeInfo) (z : Value) (size bytes : Nat) (ht : P.underlying t = some (.slice e)) (hi : P.info? e = some i) (hz : i.zero = some z)
    (hsize : i.size = size) (hby : i.bytes = bytes) (hzs : z.cells.size = size) (hsz : 0 < size)
    (v : Value) (n : Nat) (xs : List Value) (hs : a.eval s = v) (hown : w.ownsRow base e size v n xs)
    (A : Option Addr) (m c : Nat) (news : List Value) (hx : a.eval x = .slice A m c) (hl : news.length = m * size) (hnews : Src w A m news) (h1 : ∀ u ∈ news, u.oneCell' = true)
    (h63 : n + m ≤ maxLen) (hbytes : (n + m) * bytes ≤ 140737488355328) (hbase : base ≤ w.heap.size)
    (h : ∀ v' w', w'.ownsRow base e size v' (n + m) (xs ++ news) → w.grownBy w' v.ownBlock → (v'.ownBlock = v.ownBlock ∨ v'.ownBlock = some w.heap.size) → K (a.put o.dst v') w') :
    if Region.wanted o (yielded ops a.tmps) = true then Oper.wp P o a w K Q else E := by
  have hw : Region.wanted o (yielded ops a.tmps) = true := by simp [Region.wanted, hgd]
  rw [if_pos hw]
  exact wp_append_opt s x t ho base e i z size bytes ht hi hz hsize hby hzs hsz v n xs hs hown A m c news hx hl hnews h1 h63 hbytes hbase h

theorem conv_run (k : List UInt8) (W : World) : (convert 9 55 (.string ⟨k.toArray⟩)).run Tryz.prog W = .ok (.slice (some ⟨W.heap.size, 0, none⟩) k.length (grownCap W k.length 0 5)) (W.drew.alloc (.cells (bytesRow ⟨k.toArray⟩ (grownCap W k.length 0 5)) 5 ((bytesRow ⟨k.toArray⟩ (grownCap W k.length 0 5)).size, (bytesRow ⟨k.toArray⟩ (grownCap W k.length 0 5)).size + 1))) :=
  run_bytes_of_string W 9 55 5 ⟨k.toArray⟩ Tryz.underlying9 Tryz.underlying55 Tryz.underlying5

/-- .. with its room and its cells left open. -/
theorem conv_opq (k : List UInt8) : ∃ (C : World → Nat) (O : World → Obj), (∀ W, (convert 9 55 (.string ⟨k.toArray⟩)).run Tryz.prog W = .ok (.slice (some ⟨W.heap.size, 0, none⟩) k.length (C W)) (W.drew.alloc (O W))) ∧ ∀ (W V : World) (g c : Nat), g = V.heap.size → Lib.HoldsBytes (V.alloc (O W)) (.slice (some ⟨g, 0, none⟩) k.length c) k :=
  ⟨fun W => grownCap W k.length 0 5, fun W => .cells (bytesRow ⟨k.toArray⟩ (grownCap W k.length 0 5)) 5 ((bytesRow ⟨k.toArray⟩ (grownCap W k.length 0 5)).size, (bytesRow ⟨k.toArray⟩ (grownCap W k.length 0 5)).size + 1), conv_run k, fun W V g c hg => by
    obtain ⟨p, c2, h1, h2, h3⟩ := conv_holds V k (grownCap W k.length 0 5) g hg (t := 5) (fz := ((bytesRow ⟨k.toArray⟩ (grownCap W k.length 0 5)).size, (bytesRow ⟨k.toArray⟩ (grownCap W k.length 0 5)).size + 1))
    injection h1 with h1 _ _
    subst h1
    exact ⟨_, c, rfl, h2, h3⟩⟩

theorem field_row (s : ByteArray) (W : World) : (Instr.field 73 (.agg #[.string s]) 0).run Tryz.prog W = .ok (.string s) W := by kernel_rfl

theorem join_flat (ls : List (List UInt8)) : Lib.join ls [] = ls.flatten := by
  cases ls with
  | nil => rfl
  | cons x r => rw [Lib.join_cons]; simp [Lib.joinTail]

/-- bytes.Join of parts gathered, of one or more. -/
theorem join_pts (B : Nat) (v : Value) (vals : List Value) (ls : List (List UInt8)) (w : World) (h : Pts B w v vals ls) (h0 : 0 < ls.length) (h1 : ls.length ≤ 1000000) (hf : 0 < (ls.headD []).length) (hl : ls.flatten.length ≤ 140737488355328) :
    Calls Tryz.prog 78 #[v, .slice none 0 0] w fun e w' => ∃ g cp, e = .returned (.slice (some ⟨g, 0, none⟩) ls.flatten.length cp) ∧ w.heap.size ≤ g ∧ Mine w' g cp ls.flatten ∧ Keeps [] w w' := by
  have hfl : 0 < ls.flatten.length := by
    cases ls with
    | nil => cases h0
    | cons x r => simp at hf ⊢; omega
  obtain ⟨b, c, rfl, hc, hP⟩ := h.parts h0
  have fin : ∀ (e : Ending) (w' : World), (∃ v', e = .returned v' ∧ Lib.FreshBytes w.heap.size w' v' ls.flatten ∧ Below w.heap.size w w') → ∃ g cp, e = .returned (.slice (some ⟨g, 0, none⟩) ls.flatten.length cp) ∧ w.heap.size ≤ g ∧ Mine w' g cp ls.flatten ∧ Keeps [] w w' := by
    rintro e w' ⟨v', rfl, h2, h3⟩
    obtain ⟨g, cp, rfl, hg, hM⟩ := mine_of_fresh h2 hfl
    exact ⟨g, cp, rfl, hg, hM, Keeps.of_below h3⟩
  by_cases h2 : 2 ≤ ls.length
  · have hh := Any.bytes_Join_many join_lays b 0 ls.length c vals ls (.slice none 0 0) [] w rfl h2 hP hc ⟨none, 0, rfl, fun _ => rfl, fun a ha => by cases ha⟩ (by omega) (by
      have : Lib.lens ls = ls.flatten.length := by rw [List.length_flatten]; rfl
      simp only [List.length_nil, Nat.zero_mul, Nat.add_zero]
      omega)
    rw [join_flat] at hh
    exact hh.mono fin
  · match ls, h0, h2 with
    | [x], _, _ =>
      have hx : 0 < x.length := by simpa using hf
      have hvl := hP.1
      match vals, hvl with
      | [u], _ =>
        obtain ⟨p, cap, rfl, e2, e3⟩ := hP.2.2 0 u x rfl rfl
        cases p with
        | none => rw [e2 rfl] at hx; cases hx
        | some ad =>
          have hcell := hP.2.1 0 _ rfl
          have hh := Any.bytes_Join_one join_lays b 0 c ad cap x (.slice none 0 0) w hcell (e3 ad rfl) hx (by simpa using hl)
          have hxx : [x].flatten = x := by simp
          rw [hxx] at fin ⊢
          exact hh.mono fin
    | x :: y :: r, _, h2 => exact absurd (by simp) h2

end Go.Proofs.YthgpjlmdllihmaaGreat
