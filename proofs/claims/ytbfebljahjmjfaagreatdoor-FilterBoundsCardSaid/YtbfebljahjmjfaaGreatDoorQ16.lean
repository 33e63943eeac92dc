import Derived.Test.YtbfebljahjmjfaaGreatDoorQ15
import Derived.BigQuiet
import Derived.Lib.SlBytesConst
/- filter: how a Value stands in a text; walked. -/
namespace Go.Proofs.YtbfebljahjmjfaaGreatDoor
open Go.RowKit Go.Shelf
set_option linter.unusedVariables false
set_option linter.unusedSimpArgs false
set_option maxRecDepth 100000

def hexT : Txt := [48, 49, 50, 51, 52, 53, 54, 55, 56, 57, 97, 98, 99, 100, 101, 102]
def hex1 (n : Nat) : UInt8 := (hexT[n]?).getD 0
/-- How a byte of a Value stands in a text. -/
def escV (c : UInt8) : Txt := if plainP c = true then [c] else [92, hex1 (c.toNat / 16), hex1 (c.toNat % 16)]
def valT (v : Txt) : Txt := v.flatMap escV
theorem valT_step {v : Txt} {j : Nat} {c : UInt8} (h : v[j]? = some c) : valT (v.take (j + 1)) = valT (v.take j) ++ escV c := by
 unfold valT
 rw [List.take_add_one, h, List.flatMap_append]
 simp
theorem escV_len (c : UInt8) : (escV c).length ≤ 3 := by
 unfold escV
 split <;> simp
theorem valT_len (v : Txt) : (valT v).length ≤ 3 * v.length := by
 induction v with
 | nil => simp [valT]
 | cons c r ih =>
  have h1 : valT (c :: r) = escV c ++ valT r := by unfold valT; simp
  have := escV_len c
  rw [h1, List.length_append, List.length_cons]
  omega
theorem str_at8 (xs : List UInt8) (j : Nat) (u : UInt8) (hu : xs[j]? = some u) (W : World) : (Instr.index 9 (.string ⟨xs.toArray⟩) (.int .u8 (j : Int))).run Tryz.prog W = .ok (.int .u8 (u.toNat : Int)) W := by
 obtain ⟨hj, rfl⟩ := List.getElem?_eq_some_iff.1 hu
 rw [run_index_string W 9 ⟨xs.toArray⟩ .u8 (j : Int) Tryz.underlying9, dif_pos (by simp [ByteArray.size]; exact hj)]
 rfl
theorem GrS.on {base : Nat} {A : Option Addr} {n c : Nat} {w wr w2 : World} {A' : Option Addr} {m' c' : Nat} {res : Txt} (H : GrS base A n c w wr A' m' c' res) (hk : Keeps [] wr w2) : GrS base A n c w w2 A' m' c' res :=
 ⟨H.len, own_keep H.row hk (by simp), H.keep.trans hk (by simp), H.blk⟩
theorem GrS.then {base : Nat} {A : Option Addr} {n c : Nat} {w wr V w' : World} {A' : Option Addr} {m' c' : Nat} {res res2 : Txt} {e : Ending} (H : GrS base A n c w wr A' m' c' res) (hk : Keeps [] wr V) (h : GrQ base A' m' c' res2 V e w') :
  ∃ A8 m8 c8, e = .returned (.slice A8 m8 c8) ∧ GrS base A n c w w' A8 m8 c8 res2 := by
 obtain ⟨A8, c8, rfl, h1, h2, h3⟩ := h
 have hz := H.keep.size
 have hz2 := hk.size
 refine ⟨A8, _, c8, rfl, rfl, h1, (H.keep.trans hk (by simp)).trans h2 (fun x hx => H.blk x (by simpa using hx)), fun x hx => ?_⟩
 rcases h3 x hx with h4 | h4
 ·exact H.blk x (by simpa using h4)
 ·exact .inr (by omega)
theorem one_txs (w : World) (a b c : UInt8) : ∀ bs X, (∀ x ∈ bs, x < w.heap.size) → Keeps bs ((w.alloc (.cells #[.int .u8 (a.toNat : Int), .int .u8 (b.toNat : Int), .int .u8 (c.toNat : Int)] 5)).alloc (.cells #[.slice (some ⟨w.heap.size, 0, none⟩) 3 3] 37)) X → TxsIn X (some ⟨w.heap.size + 1, 0, none⟩) 1 [[a, b, c]] := by
 intro bs X hbs hX
 have b1 := heap_new8 w (.cells #[.int .u8 (a.toNat : Int), .int .u8 (b.toNat : Int), .int .u8 (c.toNat : Int)] 5)
 have k2 : Keeps [] (w.alloc (.cells #[.int .u8 (a.toNat : Int), .int .u8 (b.toNat : Int), .int .u8 (c.toNat : Int)] 5)) ((w.alloc (.cells #[.int .u8 (a.toNat : Int), .int .u8 (b.toNat : Int), .int .u8 (c.toNat : Int)] 5)).alloc (.cells #[.slice (some ⟨w.heap.size, 0, none⟩) 3 3] 37)) := (Keeps.refl [] _).alloc _
 have b2 := heap_new8 (w.alloc (.cells #[.int .u8 (a.toNat : Int), .int .u8 (b.toNat : Int), .int .u8 (c.toNat : Int)] 5)) (.cells #[.slice (some ⟨w.heap.size, 0, none⟩) 3 3] 37)
 rw [World.size_alloc] at b2
 have h1 := blk_keep (blk_keep b1 k2 (by simp)) hX (fun hm => by have := hbs _ hm; omega)
 have h2 := blk_keep b2 hX (fun hm => by have := hbs _ hm; omega)
 refine ⟨rfl, fun _ => ⟨_, 0, rfl, fun i y hi => ?_⟩⟩
 cases i with
 | succ i => simp at hi
 | zero =>
  simp at hi
  subst hi
  refine ⟨some ⟨w.heap.size, 0, none⟩, 3, cell_of_blk h2 0, some ⟨w.heap.size, 0, none⟩, 3, rfl, by simp, by unfold maxLen; omega, fun _ => ⟨_, 0, rfl, fun i u hu => ?_⟩⟩
  rw [Nat.zero_add]
  match i, hu with
  | 0, hu => simp at hu; subst hu; exact cell_of_blk h1 0
  | 1, hu => simp at hu; subst hu; exact cell_of_blk h1 1
  | 2, hu => simp at hu; subst hu; exact cell_of_blk h1 2
theorem src_u8 (w : World) (u : UInt8) (t : TypeId) : Src (w.alloc (.cells #[.int .u8 (u.toNat : Int)] t)) (some ⟨w.heap.size, 0, none⟩) 1 [.int .u8 (u.toNat : Int)] := by
 refine ⟨(fun h => by cases h), fun ad hA j x hx => ?_⟩
 cases hA
 rw [add_at, Nat.zero_add, World.cell?_alloc_new]
 simpa using hx
theorem and15 (n : Nat) (h : n < 256) : bits BinOp.and IntKind.u8 (n : Int) 15 = (n : Int) % 16 := by
 have : ∀ i : Fin 256, bits BinOp.and IntKind.u8 (i.val : Int) 15 = (i.val : Int) % 16 := by decide +kernel
 exact this ⟨n, h⟩
theorem hex_at (k : Nat) (h : k < 16) : hexT[k]? = some (hex1 k) := by
 have : ∀ i : Fin 16, hexT[i.val]? = some (hex1 i.val) := by decide
 exact this ⟨k, h⟩
set_option maxHeartbeats 8000000 in
theorem valuetext_is (v : Txt) (w : World) (hv : v.length ≤ 100000000) :
  Calls Tryz.prog 201 #[tv v] w fun e w' => e = .returned (tv (valT v)) ∧ Keeps [] w w' := by
 obtain ⟨iu, hiu, hzu0, hzu1, hzu2⟩ := info_parts u8_info8
 obtain ⟨C, O, hcv, hcap, hrow⟩ := conv_row v (by omega)
 have HCV := Lib.hid hcv
 obtain ⟨n, hn⟩ : ∃ n, v.length = n := ⟨_, rfl⟩
 have HN := Lib.hid hn
 rw [hn] at hv hcv hrow
 have HRW := Lib.hid hrow
 have HIP := Lib.hid isplain8_is
 unfold tv
 clear hn hcap hrow
 go_enter Tryz.func201, Tryz.ntmps201
 go_wp2_with fail
 have HK1 : Hid (Keeps [] w (w.alloc (O w)).drew) := ((Keeps.refl [] w).alloc _).drew
 have HRB : Hid (RowB (w.alloc (O w)).drew w.heap.size n v) := by first | exact HRW.out w | simpa using HRW.out w
 have HZ1 : Hid (w.heap.size + 1 ≤ ((w.alloc (O w)).drew).heap.size) := by show _ ≤ _; simp
 generalize (w.alloc (O w)).drew = W1 at *
 obtain ⟨cc, hc⟩ : ∃ c, C w = c := ⟨_, rfl⟩
 rw [hc]
 clear hc
 go_loopw [3, 9] (fun x i wr => ∃ (j : Nat) (A' : Option Addr) (m' c' : Nat), x = .slice A' m' c' ∧ i = .int .i64 (j : Int) ∧ j ≤ n ∧ Hid (GrS (w.heap.size + 1) none 0 0 W1 wr A' m' c' (valT (v.take j)))) (fun _ i _ => n - (intOf i).toNat)
 case atStart => exact ⟨0, none, 0, 0, rfl, rfl, Nat.zero_le _, ⟨by simp [valT], by simpa [valT] using World.ownsRow_nil W1 (w.heap.size + 1) 5 1, Keeps.refl _ _, fun x hx => by cases hx⟩⟩
 case round =>
  obtain ⟨j, A', m', c', rfl, rfl, hj, HG⟩ := hrel
  have hkk : Keeps [] W1 wr := HG.out.keep
  have hm' : m' ≤ 300000000 := by
   have h1 := HG.out.len
   have h2 := valT_len (v.take j)
   have h3 := HN.out
   rw [List.length_take] at h2
   omega
  by_cases hlt : j < n
  ·obtain ⟨u, hu⟩ : ∃ u, v[j]? = some u := ⟨_, List.getElem?_eq_getElem (by have := HN.out; omega)⟩
   have c0 := (hkk.cell (lt_of_cell (HRB.out.cell j u hu)) (by simp)).trans (HRB.out.cell j u hu)
   have HST := Lib.hid (valT_step hu)
   have HPU := Lib.hid (HIP.out u)
   have hji : (j : Int) < (n : Int) := by omega
   have hj0 : (0 : Int) ≤ (j : Int) := by omega
   obtain ⟨q, hq⟩ : ∃ q, plainP u = q := ⟨_, rfl⟩
   rw [hq] at HPU
   have HSZ : Hid (w.heap.size + 1 ≤ wr.heap.size) := Nat.le_trans HZ1.out hkk.size
   have hul : u.toNat < 256 := u.toNat_lt
   clear hu
   go_wp2_with fail
   refine (HPU.out _).mono ?_
   rintro e w3 ⟨rfl, rfl⟩
   cases q
   ·have HES : Hid (escV u = [92, hex1 (u.toNat / 16), hex1 (u.toNat % 16)]) := by show _ = _; unfold escV; rw [hq]; rfl
    clear hq c0
    go_wp2_with fail
    obtain ⟨a1, ha1⟩ : ∃ a, hex1 (u.toNat / 16) = a := ⟨_, rfl⟩
    obtain ⟨a2, ha2⟩ : ∃ a, hex1 (u.toNat % 16) = a := ⟨_, rfl⟩
    have hx1 : hexT[u.toNat / 16]? = some a1 := by rw [← ha1]; exact hex_at _ (by omega)
    have hx2 : hexT[u.toNat % 16]? = some a2 := by rw [← ha2]; exact hex_at _ (by omega)
    have hix1 : ∀ W : World, (Instr.index 9 (.string ⟨#[48, 49, 50, 51, 52, 53, 54, 55, 56, 57, 97, 98, 99, 100, 101, 102]⟩) (.int .u8 ((u.toNat : Int) / 16))).run Tryz.prog W = .ok (.int .u8 (a1.toNat : Int)) W := fun W => by
     have h9 := str_at8 hexT _ _ hx1 W
     rw [show (((u.toNat / 16 : Nat)) : Int) = (u.toNat : Int) / 16 by omega] at h9
     exact h9
    have hix2 : ∀ W : World, (Instr.index 9 (.string ⟨#[48, 49, 50, 51, 52, 53, 54, 55, 56, 57, 97, 98, 99, 100, 101, 102]⟩) (.int .u8 ((u.toNat : Int) % 16))).run Tryz.prog W = .ok (.int .u8 (a2.toNat : Int)) W := fun W => by
     have h9 := str_at8 hexT _ _ hx2 W
     rw [show (((u.toNat % 16 : Nat)) : Int) = (u.toNat : Int) % 16 by omega] at h9
     exact h9
    have hand := and15 u.toNat hul
    rw [ha1, ha2] at HES
    clear ha1 ha2
    have HG2 := Lib.hid (HG.out.on ((Keeps.refl [] wr).drew))
    refine wp_region_held_drew (S := (fun X => True)) (by kernel_rfl) trivial ?_
    intro HS
    refine wpAnyH_take (i := 0) (v := .slice A' m' c') rfl (by kernel_rfl) (by kernel_rfl) (by kernel_rfl) (fun _ _ _ h => h) (Or.inl ⟨by kernel_rfl, ?_⟩) HS ?_
    ·intro w5 hw5
     go_simp
    simp only [Act.put, aL]
    refine wpAnyH_take (i := 1) (v := .int .u8 (u.toNat : Int)) rfl (by kernel_rfl) (by kernel_rfl) (by kernel_rfl) (fun _ _ _ h => h) (Or.inl ⟨by kernel_rfl, ?_⟩) HS ?_
    ·intro w5 hw5
     go_simp
    simp only [Act.put, aL]
    refine wpAnyH_take (i := 4) (v := .int .u8 (u.toNat : Int)) rfl (by kernel_rfl) (by kernel_rfl) (by kernel_rfl) (fun _ _ _ h => h) (Or.inl ⟨by kernel_rfl, ?_⟩) HS ?_
    ·intro w5 hw5
     go_simp
    simp only [Act.put, aL]
    refine wpAnyH_take (i := 2) (v := .int .u8 ((u.toNat : Int) / 16)) rfl (by kernel_rfl) (by kernel_rfl) (by kernel_rfl) (fun _ _ _ h => h) (Or.inl ⟨by kernel_rfl, ?_⟩) HS ?_
    ·intro w5 hw5
     go_simp
    simp only [Act.put, aL]
    refine wpAnyH_take (i := 5) (v := .int .u8 ((u.toNat : Int) % 16)) rfl (by kernel_rfl) (by kernel_rfl) (by kernel_rfl) (fun _ _ _ h => h) (Or.inl ⟨by kernel_rfl, ?_⟩) HS ?_
    ·intro w5 hw5
     go_simp
    simp only [Act.put, aL]
    refine wpAnyH_take (i := 3) (v := .int .u8 (a1.toNat : Int)) rfl (by kernel_rfl) (by kernel_rfl) (by kernel_rfl) (fun _ _ _ h => h) (Or.inl ⟨by kernel_rfl, ?_⟩) HS ?_
    ·intro w5 hw5
     go_simp
    simp only [Act.put, aL]
    refine wpAnyH_take (i := 6) (v := .int .u8 (a2.toNat : Int)) rfl (by kernel_rfl) (by kernel_rfl) (by kernel_rfl) (fun _ _ _ h => h) (Or.inl ⟨by kernel_rfl, ?_⟩) HS ?_
    ·intro w5 hw5
     go_simp
    simp only [Act.put, aL]
    refine wpAnyH_ready (rs := [7]) (by kernel_rfl) (by simp) ?_
    refine AllReadyH.cons rfl (fun K hK => ?_) AllReadyH.nil
    go_simp
    refine hK.out _ _ trivial (fun HS => ?_)
    clear hK K
    try simp only [Act.put, aL]
    refine wpAnyH_ready (rs := [8]) (by kernel_rfl) (by simp) ?_
    refine AllReadyH.cons rfl (fun K hK => ?_) AllReadyH.nil
    go_simp
    refine hK.out _ _ trivial (fun HS => ?_)
    clear hK K
    try simp only [Act.put, aL]
    refine wpAnyH_ready (rs := [9]) (by kernel_rfl) (by simp) ?_
    refine AllReadyH.cons rfl (fun K hK => ?_) AllReadyH.nil
    go_simp
    obtain ⟨V, hV⟩ : ∃ V, ((wr.alloc (.cells #[.int .u8 92, .int .u8 (a1.toNat : Int), .int .u8 (a2.toNat : Int)] 5)).alloc (.cells #[.slice (some ⟨wr.heap.size, 0, none⟩) 3 3] 37)).drew = V := ⟨_, rfl⟩
    have HKV : Hid (Keeps [] wr V) := by rw [← hV]; exact (((Keeps.refl [] wr).alloc _).alloc _).drew
    have HTV : Hid (∀ X, Keeps (Value.slice A' m' c').ownBlock.toList V X → TxsIn X (some ⟨wr.heap.size + 1, 0, none⟩) 1 [[92, a1, a2]]) := fun X hX => one_txs wr 92 a1 a2 (Value.slice A' m' c').ownBlock.toList X (fun x hx => (HG.out.row.lt x (by simpa using hx)).2) (by
     rw [← hV] at hX
     have k0 := (Keeps.refl (Value.slice A' m' c').ownBlock.toList ((wr.alloc (.cells #[.int .u8 92, .int .u8 (a1.toNat : Int), .int .u8 (a2.toNat : Int)] 5)).alloc (.cells #[.slice (some ⟨wr.heap.size, 0, none⟩) 3 3] 37))).drew
     exact k0.trans' hX)
    have HGB := Lib.hid (grownb8_is (w.heap.size + 1) A' m' c' (valT (v.take j)) (some ⟨wr.heap.size + 1, 0, none⟩) 1 1 [[92, a1, a2]] V (own_keep HG.out.row HKV.out (by simp)) HG.out.len (by omega) HTV.out (by have := HG.out.len; simp; omega) (Nat.le_trans HSZ.out HKV.out.size))
    rw [hV]
    refine HGB.out.mono ?_
    intro e w6 hq6
    obtain ⟨A8, m8, c8, rfl, hy⟩ := HG.out.then HKV.out hq6
    have HY : Hid (GrS (w.heap.size + 1) none 0 0 W1 w6 A8 m8 c8 (valT (v.take (j + 1)))) := by
     show GrS _ _ _ _ _ _ _ _ _ _
     rw [HST.out, HES.out]
     simpa using hy
    clear hq6 hy
    refine hK.out _ _ trivial (fun HS => ?_)
    clear hK K
    try simp only [Act.put, aL]
    refine wpAnyH_take (i := 10) (v := .slice A8 m8 c8) rfl (by kernel_rfl) (by kernel_rfl) (by kernel_rfl) (fun _ _ _ h => h) (Or.inl ⟨by kernel_rfl, ?_⟩) HS ?_
    ·intro w5 hw5
     go_simp
    simp only [Act.put, aL]
    refine wpAnyH_done (by kernel_rfl) ?_ _
    go_wp2_with fail
    go_roundw
    case rel => exact ⟨j + 1, A8, m8, c8, rfl, by go_num, by omega, HY.out⟩
    case measure => simp [intOf]; omega
   ·have HES : Hid (escV u = [u]) := by show _ = _; unfold escV; rw [hq]; rfl
    have HG2 := Lib.hid (HG.out.on ((Keeps.refl [] wr).alloc (.cells #[.int .u8 (u.toNat : Int)] 5)))
    have HSZ2 : Hid (w.heap.size + 1 ≤ (wr.alloc (.cells #[.int .u8 (u.toNat : Int)] 5)).heap.size) := Nat.le_trans HSZ.out (by simp)
    clear hq c0
    go_wp2_with (at_builtin; refine wpList_append_opt rfl (.tmp 15) (.tmp 17) 37 rfl (w.heap.size + 1) 5 iu _ 1 1 Tryz.underlying37 hiu hzu0 hzu1 hzu2 rfl (by decide) (.slice A' m' c') m' _ rfl HG2.out.row (some ⟨wr.heap.size, 0, none⟩) 1 1 [.int .u8 (u.toNat : Int)] rfl rfl (src_u8 wr u _) (by intro x hx; simp at hx; subst hx; rfl) (by unfold maxLen; omega) (by omega) HSZ2.out ?_; intro v8 w8 ho hg8 hs8; obtain ⟨A8, c8, hv8⟩ := own_slice ho; subst hv8; have HY : Hid (GrS (w.heap.size + 1) none 0 0 W1 w8 A8 (m' + 1) c8 (valT (v.take (j + 1)))) := (by show GrS _ _ _ _ _ _ _ _ _ _; rw [HST.out, HES.out]; exact HG2.out.step (s := [u]) (by rw [List.map_append]; exact ho) hg8 hs8); clear ho hg8 hs8)
    go_roundw
    case rel => exact ⟨j + 1, A8, _, c8, rfl, by go_num, by omega, HY.out⟩
    case measure => simp [intOf]; omega
  ·obtain rfl : j = n := by omega
   have h9 := HG.out
   rw [List.take_of_length_le (by rw [HN.out]; exact Nat.le_refl _)] at h9
   obtain rfl := h9.len
   have hcv3 := conv_bytes (BytesAt.of_own h9.row)
   have HK9 := Lib.hid (HK1.out.trans' hkk)
   clear h9
   go_wp2_with fail
   go_ret
   exact ⟨rfl, HK9.out⟩
end Go.Proofs.YtbfebljahjmjfaaGreatDoor
/- filter: grown of texts, onto a row that bears the literal's mark; walked. -/
namespace Go.Proofs.YtbfebljahjmjfaaGreatDoor
open Go.RowKit Go.Shelf
set_option linter.unusedVariables false
set_option linter.unusedSimpArgs false
set_option maxRecDepth 100000

/-- An append of a text that does not fit: the row is a new one. -/
theorem append_new8 {P : Program} {w : World} {ops : Array Oper} {rest : List Oper} {o : Oper} {a : Act} {Q : Exit → Act → World → Prop} (hgd : o.guard = none) (sl x : Operand) (t u : TypeId)
  (ho : o.op = .call { callee := .builtin .append, args := #[sl, x], argTypes := #[t, u] })
  (base : Nat) (e : TypeId) (i : TypeInfo) (ht : P.underlying t = some (.slice e)) (hu : P.underlying u = some .string) (hi : P.info? e = some i) (hz : i.zero = some (.int .u8 0)) (hsize : i.size = 1) (hby : i.bytes = 1)
  (b : Addr) (n : Nat) (xs s : Txt) (hxl : xs.length = n) (hs : a.eval sl = .slice (some b) n n) (hcell : ∀ j v, (xs.map bv)[j]? = some v → w.cell? (b.add j) = some v) (hx : a.eval x = .string ⟨s.toArray⟩) (h0 : 0 < s.length) (hb : n + s.length ≤ 1000000000) (hbase : base ≤ w.heap.size)
  (h : ∀ A' c' w', w'.ownsRow base e 1 (.slice A' (n + s.length) c') (n + s.length) ((xs ++ s).map bv) → Keeps [] w w' → (Value.slice A' (n + s.length) c').ownBlock = some w.heap.size → wpList P ops Q rest (a.put o.dst (.slice A' (n + s.length) c')) w') : wpList P ops Q (o :: rest) a w := by
 have hss : (⟨s.toArray⟩ : ByteArray).size = s.length := rfl
 refine wpList_plain hgd fun K hK => ?_
 have hr := Lib.run_append_grow_string (P := P) w t u o.type e i (.int .u8 0) ht hu hi hz b n n (xs.map bv) (by rw [hsize, List.length_map]; omega) hcell ⟨s.toArray⟩ (by rw [hss]; omega) (by rw [hss]; omega) (by rw [hss, hby]; exact growslice_fits (by omega) (by omega))
 rw [hss, strCells8] at hr
 have hge := grownCap_ge w (n + s.length) n e
 have hcm : grownCap w (n + s.length) n e ≤ maxLen := grownCap_le_maxLen w (n + s.length) n e (by unfold maxLen; omega)
 have hrow : (w.drew.alloc (.cells ((xs.map bv).toArray ++ (s.map bv).toArray ++ Builtin.zeroCells (Value.int .u8 0).cells (grownCap w (n + s.length) n e - (n + s.length))) e)).ownsRow base e 1 (.slice (some ⟨w.heap.size, 0, none⟩) (n + s.length) (grownCap w (n + s.length) n e)) (n + s.length) ((xs ++ s).map bv) := by
  refine ⟨by simp; omega, .inr ⟨w.heap.size, _, _, rfl, hbase, heap_alloc_new w.drew _, hge, hcm, ?_, ?_⟩⟩
  ·have hz1 : (Value.int IntKind.u8 0).cells.size = 1 := rfl
   simp only [Array.size_append, List.size_toArray, size_zeroCells, hz1, List.length_map]
   omega
  ·simp only [Array.toList_append, List.map_append]
   have hl : (n + s.length) * 1 = (xs.map bv ++ s.map bv).length := by simp; omega
   rw [hl]
   exact List.take_left
 unfold Oper.wp execOp
 simp only [ho, resolve, invoke, builtin, Sem.run_bind, Sem.run_pure, Result.andThen_ok, List.map_toArray, List.map_cons, List.map_nil, hs, hx, hr]
 exact hK _ _ (h _ _ _ hrow (((Keeps.refl [] w).drew).alloc _) rfl)
set_option maxHeartbeats 4000000 in
theorem grownsm_is (base g : Nat) (xs : Txt) (n : Nat) (C : Option Addr) (m d : Nat) (s0 : Txt) (ss : List Txt) (w : World) (hcell : ∀ j v, (xs.map bv)[j]? = some v → w.cell? ⟨g, j, none⟩ = some v) (hx : xs.length = n) (hm : m ≤ 1000000) (h0 : 0 < s0.length) (hS : ∀ X, Keeps [] w X → StrsIn X C m (s0 :: ss)) (hb : xs.length + (s0 :: ss).flatten.length ≤ 1000000000) (hbase : base ≤ w.heap.size) :
  Calls Tryz.prog 200 #[.slice (some ⟨g, 0, none⟩) n n, .slice C m d] w (GrQ base none 0 0 (xs ++ (s0 :: ss).flatten) w) := by
 obtain ⟨iu, hiu, hzu0, hzu1, hzu2⟩ := info_parts u8_info8
 have HS := Lib.hid hS
 have HL : Hid ((s0 :: ss).length = m) := (hS w (Keeps.refl _ _)).1
 have HB := Lib.hid hb
 have HBA := Lib.hid hbase
 have HCE : Hid (∀ X, Keeps [] w X → ∀ j v, (xs.map bv)[j]? = some v → X.cell? ((⟨g, 0, none⟩ : Addr).add j) = some v) := fun X hX j v hv => by
  rw [add_at, Nat.zero_add]
  exact (hX.cell (lt_of_cell (hcell j v hv)) (by simp)).trans (hcell j v hv)
 have HX := Lib.hid hx
 have H0 := Lib.hid h0
 have hn9 : n ≤ 1000000000 := by omega
 clear hS hb hbase hcell hx h0
 go_enter Tryz.func200, Tryz.ntmps200
 go_wp2_with fail
 go_loopw [0, 9] (fun x i wr => ∃ (j : Nat) (A' : Option Addr) (m' c' : Nat), x = .slice A' m' c' ∧ i = .int .i64 (j : Int) ∧ j ≤ m ∧ Hid ((j = 0 ∧ A' = some ⟨g, 0, none⟩ ∧ m' = n ∧ c' = n ∧ Keeps [] w wr) ∨ (0 < j ∧ GrS base none 0 0 w wr A' m' c' (xs ++ ((s0 :: ss).take j).flatten)))) (fun _ i _ => m - (intOf i).toNat)
 case atStart => exact ⟨0, some ⟨g, 0, none⟩, n, n, rfl, rfl, Nat.zero_le _, .inl ⟨rfl, rfl, rfl, rfl, Keeps.refl _ _⟩⟩
 case round =>
  obtain ⟨j, A', m', c', rfl, rfl, hj, HQ⟩ := hrel
  have hkk : Keeps [] w wr := by
   rcases HQ.out with ⟨_, _, _, _, h⟩ | ⟨_, h⟩
   ·exact h
   ·exact h.keep
  have hz := hkk.size
  by_cases hlt : j < m
  ·obtain ⟨s, hu⟩ : ∃ s, (s0 :: ss)[j]? = some s := ⟨_, List.getElem?_eq_getElem (by have := HL.out; omega)⟩
   obtain ⟨hl, hp, hc9⟩ := HS.out wr hkk
   obtain ⟨b, o, hA9, hcc⟩ := hc9 (by omega)
   subst hA9
   have c0 := hcc j s hu
   unfold tv at c0
   clear hcc hp hl hc9
   have HFS := Lib.hid (flat_step hu)
   have hji : (j : Int) < (m : Int) := by omega
   have hj0 : (0 : Int) ≤ (j : Int) := by omega
   have HSZ : Hid (base ≤ wr.heap.size) := Nat.le_trans HBA.out hz
   have hfl := flat_le (ss := s0 :: ss) (j + 1)
   rw [HFS.out, List.length_append] at hfl
   rcases HQ.out with ⟨rfl, rfl, rfl, rfl, _⟩ | ⟨hj1, HG⟩
   ·obtain rfl : s0 = s := by simpa using hu
    rw [Nat.add_zero] at c0
    have hsl : c' + s0.length ≤ 1000000000 := by
     have h3 := HB.out
     have h1 := HX.out
     omega
    clear hu
    go_wp2_with (at_builtin; refine append_new8 rfl (.tmp 13) (.tmp 14) 37 9 rfl base 5 iu Tryz.underlying37 Tryz.underlying9 hiu hzu0 hzu1 hzu2 ⟨g, 0, none⟩ c' xs s0 HX.out rfl (HCE.out wr hkk) rfl H0.out (by omega) HSZ.out ?_; intro A8 c8 w8 ho hk8 hs8; have HY : Hid (GrS base none 0 0 w w8 A8 (c' + s0.length) c8 (xs ++ ((s0 :: ss).take (0 + 1)).flatten)) := (by refine ⟨by simp [HX.out], by simpa using ho, hkk.trans' hk8, fun x hx => ?_⟩; rw [hs8] at hx; injection hx with hx; exact .inr (by omega)); clear ho hk8 hs8)
    go_roundw
    case rel => exact ⟨1, A8, _, c8, rfl, by go_num, by omega, .inr ⟨by omega, HY.out⟩⟩
    case measure => simp [intOf]; omega
   ·have hsl : m' + s.length ≤ 1000000000 := by
     have h1 := HG.len
     have h3 := HB.out
     rw [List.length_append] at h1
     omega
    have HG9 := Lib.hid HG
    clear hu HG
    go_wp2_with (at_builtin; refine append_str8 rfl (.tmp 13) (.tmp 14) 37 9 rfl base 5 iu Tryz.underlying37 Tryz.underlying9 hiu hzu0 hzu1 hzu2 A' m' c' _ s rfl HG9.out.row rfl (by omega) HSZ.out ?_; intro A8 c8 w8 ho hg8 hs8; have HY : Hid (GrS base none 0 0 w w8 A8 (m' + s.length) c8 (xs ++ ((s0 :: ss).take (j + 1)).flatten)) := (by show GrS _ _ _ _ _ _ _ _ _ _; rw [HFS.out, ← List.append_assoc]; exact HG9.out.step ho hg8 hs8); clear ho hg8 hs8)
    go_roundw
    case rel => exact ⟨j + 1, A8, _, c8, rfl, by go_num, by omega, .inr ⟨by omega, HY.out⟩⟩
    case measure => simp [intOf]; omega
  ·obtain rfl : j = m := by omega
   have HG : GrS base none 0 0 w wr A' m' c' (xs ++ ((s0 :: ss).take j).flatten) := by
    rcases HQ.out with ⟨h1, _⟩ | ⟨_, h⟩
    ·have := HL.out
     simp at this
     omega
    ·exact h
   rw [List.take_of_length_le (by rw [HL.out]; exact Nat.le_refl _)] at HG
   have H9 := Lib.hid HG
   clear HG
   go_wp2_with fail
   go_ret
   exact H9.out.fin
end Go.Proofs.YtbfebljahjmjfaaGreatDoor
