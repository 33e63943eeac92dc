/- Texts of one proof, laid together: G5 K1 K6. -/
import Derived.Laws.OwnMore
import Derived.Test.YtjnibkgbcgpigaaDoorM01
import Derived.WalkKit
import Derived.Test.YtjnibkgbcgpigaaDoorProg
import Derived.Laws.BitsAllLaws
/- append(s, make([]T, n)...): noughts behind a slice of the call's own. -/
namespace Go.Proofs.YtjnibkgbcgpigaaDoor
open Go.RowKit
set_option linter.unusedVariables false
set_option linter.unusedSimpArgs false

theorem toList_zeroCells_one (z : Value) (n : Nat) : (Builtin.zeroCells #[z] n).toList = List.replicate n z := by
  have h : (Builtin.zeroCells #[z] n).size = n := by simp [Builtin.zeroCells]
  apply List.ext_getElem?
  intro k
  simp only [Builtin.zeroCells, Array.toList_map, Array.toList_range, List.getElem?_map, List.size_toArray, List.length_cons, List.length_nil, Nat.zero_add, Nat.mul_one, Nat.mod_one]
  by_cases hk : k < n
  · simp [hk]
  · simp [hk]

theorem run_append_zeros {P : Program} {w : World} (base : Nat) (t u ty e : TypeId) (q : IntKind) (i : TypeInfo) (z : Value) (ht : P.underlying t = some (.slice e)) (hu : P.underlying u = some (.int q)) (hi : P.info? e = some i) (hz : i.zero = some z)
    (hsize : i.size = 1) (hby : i.bytes = 1) (hzc : z.cells = #[z]) (h1 : z.oneCell' = true)
    (v : Value) (n : Nat) (xs : List Value) (hown : w.ownsRow base e 1 v n xs) (m : Nat)
    (h63 : n + m ≤ maxLen) (hbytes : n + m ≤ 140737488355328) (hbase : base ≤ w.heap.size) :
    ∃ v' w', (Builtin.append_ #[t, u] ty #[v, .int .i64 (m : Int)]).run P w = .ok v' w' ∧ w'.ownsRow base e 1 v' (n + m) (xs ++ List.replicate m z) ∧ w.grownBy w' v.ownBlock ∧ (v'.ownBlock = v.ownBlock ∨ v'.ownBlock = some w.heap.size) := by
  have hsmall : n + m ≤ 9223372036854775807 := by simp only [maxLen] at h63; omega
  have hxl := hown.1
  rw [Nat.mul_one] at hxl
  have hwr : IntKind.i64.wrap (m : Int) = (m : Int) := IntWalk.i64_in _ (by omega)
  have hwr0 : IntKind.i64.wrap 0 = 0 := by decide
  have hm0 : ¬ ((m : Int) < 0) := by omega
  have hm48 : ¬ (281474976710656 < (m : Int)) := by omega
  have hlen : (xs ++ List.replicate m z).length = (n + m) * 1 := by rw [List.length_append, List.length_replicate]; omega
  have hzl := toList_zeroCells_one z m
  have hza : Builtin.zeroCells #[z] m = (List.replicate m z).toArray := by rw [← hzl]
  have grown : ∀ (old : Nat), old < n + m → ∀ (row : Option Nat),
      (w.drew.alloc (.cells (xs.toArray ++ Builtin.zeroCells #[z] m ++ Builtin.zeroCells #[z] (grownCap w (n + m) old e - (n + m))) e)).ownsRow base e 1
        (.slice (some ⟨w.heap.size, 0, none⟩) (n + m) (grownCap w (n + m) old e)) (n + m) (xs ++ List.replicate m z) ∧
      w.grownBy (w.drew.alloc (.cells (xs.toArray ++ Builtin.zeroCells #[z] m ++ Builtin.zeroCells #[z] (grownCap w (n + m) old e - (n + m))) e)) row := by
    intro old ho row
    have hge := grownCap_ge w (n + m) old e
    have hcm : grownCap w (n + m) old e ≤ maxLen := grownCap_le_maxLen w (n + m) old e h63
    refine ⟨⟨hlen, .inr ⟨w.heap.size, _, _, rfl, hbase, heap_alloc_new w.drew _, hge, hcm, ?_, ?_⟩⟩, ⟨rfl, rfl, rfl, by simp, fun k hk _ => Below.heap_alloc w.drew _ k hk⟩⟩
    · simp only [Array.size_append, List.size_toArray, size_zeroCells]
      simp
      omega
    · rw [hza]
      simp only [Array.toList_append, List.append_assoc]
      rw [← List.append_assoc, ← hlen]
      exact List.take_left
  rcases hown.2 with ⟨rfl, rfl⟩ | ⟨g, cap, cur, rfl, hbg, hg, hnc, hcm, hcs, htake⟩
  · have hx : xs = [] := List.eq_nil_of_length_eq_zero (by simpa using hown.1)
    subst hx
    by_cases hm : m = 0
    · subst hm
      refine ⟨.slice none 0 0, w, ?_, by simpa using World.ownsRow_nil w base e 1, ⟨rfl, rfl, rfl, Nat.le_refl _, fun _ _ _ => rfl⟩, Or.inl rfl⟩
      simp [Builtin.append_, run_underlying ht, run_underlying hu, sizeOf, typeInfo, hi, asInt, asIntOf, hwr, hwr0, hby]
    · have hgr := grown 0 (by omega) (Value.ownBlock (.slice none 0 0))
      simp only [Nat.zero_add, List.nil_append, Array.empty_append] at hgr ⊢
      refine ⟨_, _, ?_, hgr.1, hgr.2, Or.inr rfl⟩
      have hn : m ≠ 0 := by omega
      have h63' : ¬ (9223372036854775807 < (m : Int)) := by omega
      have h48' : ¬ (281474976710656 < Builtin.nextslicecap m 0) := by rw [nextslicecap_zero (by omega)]; omega
      simp [Builtin.append_, run_underlying ht, run_underlying hu, sizeOf, typeInfo, zeroValue, hi, hz, asInt, asIntOf, hwr, hwr0, hby, hsize, hm0, hm48, Builtin.lenOf, hn, h63', h48', Question.forced, run_firstCells_none, newRow, grownCap, hzc]
  · by_cases hroom : n + m ≤ cap
    · have hfit : n * 1 + (List.replicate m z).length ≤ cur.size := by rw [List.length_replicate, hcs]; omega
      have h1' : ∀ u ∈ List.replicate m z, u.oneCell' = true := fun u hu => by obtain rfl := (List.mem_replicate.1 hu).2; exact h1
      have hst := run_storeCells_at P g (n * 1) e (List.replicate m z) 0 cur w hg (by simpa using hfit) h1'
      simp only [Nat.add_zero, Nat.mul_one] at hst
      have hr : (Builtin.append_ #[t, u] ty #[.slice (some ⟨g, 0, none⟩) n cap, .int .i64 (m : Int)]).run P w = .ok (.slice (some ⟨g, 0, none⟩) (n + m) cap) (w.setRow g (cur.toList.take n ++ List.replicate m z ++ cur.toList.drop (n + (List.replicate m z).length)).toArray) := by
        by_cases hm : m = 0
        · subst hm
          simp at hst hroom
          simp [Builtin.append_, run_underlying ht, run_underlying hu, sizeOf, typeInfo, zeroValue, hi, hz, asInt, asIntOf, hwr, hwr0, hby, hsize, hroom, Addr.add_lit, hst]
        · simp [Builtin.append_, run_underlying ht, run_underlying hu, sizeOf, typeInfo, zeroValue, hi, hz, asInt, asIntOf, hwr, hwr0, hby, hsize, hm0, hm48, hm, hroom, Addr.add_lit, hzc, hzl, hst]
      refine ⟨_, _, hr, ⟨hlen, .inr ⟨g, cap, _, rfl, hbg, setRow_heap w g cur _ e _ hg, hroom, hcm, ?_, ?_⟩⟩, ⟨rfl, rfl, rfl, by simp, fun k _ hk => setRow_other w g k _ (fun e => hk (by simp [Value.ownBlock, e]))⟩, Or.inl rfl⟩
      · simp only [List.size_toArray, List.length_append, List.length_take, List.length_drop, Array.length_toList, List.length_replicate]
        rw [List.length_replicate] at hfit
        omega
      · rw [Nat.mul_one] at htake
        rw [htake, ← hlen]
        exact List.take_left
    · have holds : ∀ j u, xs[j]? = some u → w.cell? ((⟨g, 0, none⟩ : Addr).add j) = some u := hown.cells (g := g) rfl
      have hfo := run_firstCells_some (P := P) w.drew 1 n ⟨g, 0, none⟩ n cap xs (by omega) (by simpa using holds)
      have hgr := grown cap (by omega) (Value.ownBlock (.slice (some ⟨g, 0, none⟩) n cap))
      refine ⟨_, _, ?_, hgr.1, hgr.2, Or.inr rfl⟩
      have hn : ¬ (n + m ≤ cap) := by omega
      have hmn : m ≠ 0 := by omega
      have h63' : ¬ (9223372036854775807 < ((n : Int) + (m : Int))) := by omega
      have h48' : ¬ (281474976710656 < Builtin.nextslicecap (n + m) cap) := by have := growslice_fits (need := n + m) (old := cap) (bytes := 1) (by omega) (by omega); omega
      simp [Builtin.append_, run_underlying ht, run_underlying hu, sizeOf, typeInfo, zeroValue, hi, hz, asInt, asIntOf, hwr, hwr0, hby, hsize, hm0, hm48, hmn, hn, h63', h48', Question.forced, hfo, newRow, grownCap, hzc]

theorem wpList_append_zeros {P : Program} {w : World} {ops : Array Oper} {rest : List Oper} {o : Oper} {a : Act} {Q : Exit → Act → World → Prop} (hgd : o.guard = none) (s x : Operand) (t u : TypeId)
    (ho : o.op = .call { callee := .builtin .append, args := #[s, x], argTypes := #[t, u] })
    (base : Nat) (e : TypeId) (q : IntKind) (i : TypeInfo) (z : Value) (ht : P.underlying t = some (.slice e)) (hu : P.underlying u = some (.int q)) (hi : P.info? e = some i) (hz : i.zero = some z)
    (hsize : i.size = 1) (hby : i.bytes = 1) (hzc : z.cells = #[z]) (h1 : z.oneCell' = true)
    (v : Value) (n : Nat) (xs : List Value) (hs : a.eval s = v) (hown : w.ownsRow base e 1 v n xs) (m : Nat) (hx : a.eval x = .int .i64 (m : Int))
    (h63 : n + m ≤ maxLen) (hbytes : n + m ≤ 140737488355328) (hbase : base ≤ w.heap.size)
    (h : ∀ v' w', w'.ownsRow base e 1 v' (n + m) (xs ++ List.replicate m z) → w.grownBy w' v.ownBlock → (v'.ownBlock = v.ownBlock ∨ v'.ownBlock = some w.heap.size) → wpList P ops Q rest (a.put o.dst v') w') : wpList P ops Q (o :: rest) a w := by
  refine wpList_plain hgd fun K hK => ?_
  obtain ⟨v', w', hr, h2, h3, h4⟩ := run_append_zeros (P := P) (w := w) base t u o.type e q i z ht hu hi hz hsize hby hzc h1 v n xs hown m h63 hbytes hbase
  unfold Oper.wp execOp
  simp only [ho, resolve, invoke, builtin, Sem.run_bind, Sem.run_pure, Result.andThen_ok, List.map_toArray, List.map_cons, List.map_nil, hs, hx, hr]
  exact hK _ _ (h v' w' h2 h3 h4)

end Go.Proofs.YtjnibkgbcgpigaaDoor
/- Sums of 32 bits, as numbers: a halving is undone by what it leaves; 32 bits of a text at once; two texts that differ within 32 bits. -/
namespace Go.Proofs.YtjnibkgbcgpigaaDoor
set_option linter.unusedVariables false

def crcP : Nat := 3988292384
/-- One halving. -/
def crcZ (x : Nat) : Nat := x / 2 ^^^ (if x % 2 = 1 then crcP else 0)
def crcZs : Nat → Nat → Nat
  | 0, x => x
  | n + 1, x => crcZs n (crcZ x)
/-- The word behind a byte. -/
def crcStep (w b : Nat) : Nat := crcZs 8 (w ^^^ b)
def crcRun (w : Nat) (l : List UInt8) : Nat := l.foldl (fun w b => crcStep w b.toNat) w
def crcSum (l : List UInt8) : Nat := 4294967295 - crcRun 4294967295 l

theorem crcRun_append (w : Nat) (l m : List UInt8) : crcRun w (l ++ m) = crcRun (crcRun w l) m := List.foldl_append ..
theorem crcRun_snoc (w : Nat) (l : List UInt8) (b : UInt8) : crcRun w (l ++ [b]) = crcStep (crcRun w l) b.toNat := by rw [crcRun_append]; rfl

theorem crcZ_lt {x : Nat} (h : x < 4294967296) : crcZ x < 4294967296 := by
  unfold crcZ
  refine Nat.xor_lt_two_pow (n := 32) (by omega) ?_
  split
  · decide
  · decide
theorem crcZs_lt {n x : Nat} (h : x < 4294967296) : crcZs n x < 4294967296 := by
  induction n generalizing x with
  | zero => exact h
  | succ n ih => exact ih (crcZ_lt h)
theorem crcStep_lt {w b : Nat} (h : w < 4294967296) (hb : b < 256) : crcStep w b < 4294967296 := crcZs_lt (Nat.xor_lt_two_pow (n := 32) h (by omega))
theorem crcRun_lt {w : Nat} (h : w < 4294967296) (l : List UInt8) : crcRun w l < 4294967296 := by
  induction l generalizing w with
  | nil => exact h
  | cons b l ih => exact ih (crcStep_lt h b.toNat_lt)

theorem xor_drop {a b c : Nat} (h : a ^^^ c = b ^^^ c) : a = b := by
  have := congrArg (· ^^^ c) h
  simpa [Nat.xor_assoc] using this

/-- The highest bit tells whether the lowest one was let go. -/
theorem crcZ_top {x : Nat} (h : x < 4294967296) : (crcZ x).testBit 31 = decide (x % 2 = 1) := by
  have h1 : (x / 2).testBit 31 = false := Nat.testBit_lt_two_pow (by omega)
  unfold crcZ
  rw [Nat.testBit_xor, h1]
  split
  · rename_i h2
    simp [h2]
    decide
  · rename_i h2
    simp [h2]

theorem crcZ_inj {x y : Nat} (hx : x < 4294967296) (hy : y < 4294967296) (h : crcZ x = crcZ y) : x = y := by
  have h1 := crcZ_top hx
  rw [h, crcZ_top hy] at h1
  have h2 : (x % 2 = 1) ↔ (y % 2 = 1) := by
    have := h1.symm
    simpa using this
  have h3 : x / 2 = y / 2 := by
    unfold crcZ at h
    by_cases hb : x % 2 = 1
    · rw [if_pos hb, if_pos (h2.1 hb)] at h
      exact xor_drop h
    · rw [if_neg hb, if_neg (fun h' => hb (h2.2 h'))] at h
      simpa using h
  omega

theorem crcZs_inj {n x y : Nat} (hx : x < 4294967296) (hy : y < 4294967296) (h : crcZs n x = crcZs n y) : x = y := by
  induction n generalizing x y with
  | zero => exact h
  | succ n ih => exact crcZ_inj hx hy (ih (crcZ_lt hx) (crcZ_lt hy) h)

/-- Higher bits only move down. -/
theorem crcZ_even (x c : Nat) : crcZ (x ^^^ 2 * c) = crcZ x ^^^ c := by
  have h1 : (x ^^^ 2 * c) / 2 = x / 2 ^^^ c := by
    rw [Nat.xor_div_two]
    congr 1
    omega
  have h2 : (x ^^^ 2 * c) % 2 = x % 2 := by
    have h3 : (2 * c) % 2 = 0 := by omega
    have := Nat.xor_mod_two_pow (a := x) (b := 2 * c) (n := 1)
    simpa [h3] using this
  unfold crcZ
  rw [h1, h2, Nat.xor_assoc, Nat.xor_assoc, Nat.xor_comm c]

theorem crcZs_add (n m x : Nat) : crcZs (n + m) x = crcZs m (crcZs n x) := by
  induction n generalizing x with
  | zero => rw [Nat.zero_add]; rfl
  | succ n ih =>
    rw [Nat.succ_add]
    exact ih _

theorem crcZs_high (n x c : Nat) : crcZs n (x ^^^ 2 ^ n * c) = crcZs n x ^^^ c := by
  induction n generalizing x c with
  | zero => simp [crcZs]
  | succ n ih =>
    show crcZs n (crcZ (x ^^^ 2 ^ (n + 1) * c)) = crcZs n (crcZ x) ^^^ c
    rw [show 2 ^ (n + 1) * c = 2 * (2 ^ n * c) by rw [Nat.pow_succ, Nat.mul_comm (2 ^ n) 2, Nat.mul_assoc], crcZ_even, ih]

theorem low_high (u : Nat) : u = u % 256 ^^^ 2 ^ 8 * (u / 256) := by
  refine Nat.eq_of_testBit_eq fun i => ?_
  rw [show (256 : Nat) = 2 ^ 8 from rfl, Nat.testBit_xor, Nat.testBit_mod_two_pow, Nat.testBit_two_pow_mul, Nat.testBit_div_two_pow]
  by_cases hi : i < 8
  · have h5 : ¬ 8 ≤ i := by omega
    simp [hi, h5]
  · have h4 : 8 ≤ i := by omega
    simp [hi, h4, show i - 8 + 8 = i by omega]

/-- By a table of 256 words. -/
theorem crcStep_table {w b : Nat} (hb : b < 256) : crcStep w b = w / 256 ^^^ crcZs 8 ((w ^^^ b) % 256) := by
  have h1 : w ^^^ b = (w ^^^ b) % 256 ^^^ 2 ^ 8 * (w / 256) := by
    have h2 : (w ^^^ b) / 256 = w / 256 := by
      have h3 : b / 2 ^ 8 = 0 := by omega
      have := Nat.xor_div_two_pow (a := w) (b := b) (n := 8)
      rw [h3, Nat.xor_zero] at this
      exact this
    rw [← h2]
    exact low_high (w ^^^ b)
  show crcZs 8 (w ^^^ b) = _
  rw [h1, crcZs_high, ← h1, Nat.xor_comm]

end Go.Proofs.YtjnibkgbcgpigaaDoor
/- Rows of bytes: few, joined. -/
namespace Go.Proofs.YtjnibkgbcgpigaaDoor
open Go.RowKit
set_option linter.unusedVariables false

structure Part where
  A : Option Addr
  c : Nat
  bs : List UInt8

structure PartsAt (w : World) (A : Option Addr) (len : Nat) (l : List Part) : Prop where
  len : l.length = len
  at_ : ∀ i x, l[i]? = some x → ∃ b o, A = some ⟨b, o, none⟩ ∧ w.cell? ⟨b, o + i, none⟩ = some (.slice x.A x.bs.length x.c) ∧ BytesAt w (.slice x.A x.bs.length x.c) x.bs ∧ x.bs.length ≤ 9223372036854775807

theorem PartsAt.keep {w w' : World} {A : Option Addr} {len : Nat} {l : List Part} (h : PartsAt w A len l) (hk : Keeps [] w w') : PartsAt w' A len l := by
  refine ⟨h.len, fun i x hx => ?_⟩
  obtain ⟨b, o, h1, h2, h3, h4⟩ := h.at_ i x hx
  exact ⟨b, o, h1, (hk.cell (lt_of_cell h2) (by simp)).trans h2, h3.grow hk, h4⟩

def total (l : List Part) : Nat := (l.map fun x => x.bs.length).sum

theorem total_snoc (l : List Part) (x : Part) : total (l ++ [x]) = total l + x.bs.length := by simp [total]

end Go.Proofs.YtjnibkgbcgpigaaDoor
