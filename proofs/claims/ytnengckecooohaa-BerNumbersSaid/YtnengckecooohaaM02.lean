/- Texts of one proof, laid together: G5 K1 K6 G3. -/
import Derived.Laws.OwnMore
import Derived.Test.YtnengckecooohaaM01
import Derived.WalkKit
import Derived.Test.YtnengckecooohaaProg
import Derived.Laws.BitsAllLaws
import Derived.RangeFuncNested
import Derived.RangeFuncBound
import Derived.RangeFuncCalls
import Derived.RangeFuncLeaves
import Derived.Shelf.Abstract
import Derived.OwnWalkIn
import Derived.TacticsInMore
import Derived.LoopNIn
import Derived.LoopIn
/- append(s, make([]T, n)...): noughts behind a slice of the call's own. -/
namespace Go.Proofs.Ytnengckecooohaa
open Go.RowKit
set_option linter.unusedVariables false
set_option linter.unusedSimpArgs false

theorem toList_zeroCells_one (z : Value) (n : Nat) : (Builtin.zeroCells #[z] n).toList = List.replicate n z := by
  have h : (Builtin.zeroCells #[z] n).size = n := by simp [Builtin.zeroCells]
  apply List.ext_getElem?
  intro k
  simp only [Builtin.zeroCells, Array.toList_map, Array.toList_range, List.getElem?_map, List.size_toArray, List.length_cons, List.length_nil, Nat.zero_add, Nat.mul_one, Nat.mod_one]
  by_cases hk : k < n
  · simp [hk]
  · simp [hk]

theorem run_append_zeros {P : Program} {w : World} (base : Nat) (t u ty e : TypeId) (q : IntKind) (i : TypeInfo) (z : Value) (ht : P.underlying t = some (.slice e)) (hu : P.underlying u = some (.int q)) (hi : P.info? e = some i) (hz : i.zero = some z)
    (hsize : i.size = 1) (hby : i.bytes = 1) (hzc : z.cells = #[z]) (h1 : z.oneCell' = true)
    (v : Value) (n : Nat) (xs : List Value) (hown : w.ownsRow base e 1 v n xs) (m : Nat)
    (h63 : n + m ≤ maxLen) (hbytes : n + m ≤ 140737488355328) (hbase : base ≤ w.heap.size) :
    ∃ v' w', (Builtin.append_ #[t, u] ty #[v, .int .i64 (m : Int)]).run P w = .ok v' w' ∧ w'.ownsRow base e 1 v' (n + m) (xs ++ List.replicate m z) ∧ w.grownBy w' v.ownBlock ∧ (v'.ownBlock = v.ownBlock ∨ v'.ownBlock = some w.heap.size) := by
  have hsmall : n + m ≤ 9223372036854775807 := by simp only [maxLen] at h63; omega
  have hxl := hown.1
  rw [Nat.mul_one] at hxl
  have hwr : IntKind.i64.wrap (m : Int) = (m : Int) := IntWalk.i64_in _ (by omega)
  have hwr0 : IntKind.i64.wrap 0 = 0 := by decide
  have hm0 : ¬ ((m : Int) < 0) := by omega
  have hm48 : ¬ (281474976710656 < (m : Int)) := by omega
  have hlen : (xs ++ List.replicate m z).length = (n + m) * 1 := by rw [List.length_append, List.length_replicate]; omega
  have hzl := toList_zeroCells_one z m
  have hza : Builtin.zeroCells #[z] m = (List.replicate m z).toArray := by rw [← hzl]
  have grown : ∀ (old : Nat), old < n + m → ∀ (row : Option Nat),
      (w.drew.alloc (.cells (xs.toArray ++ Builtin.zeroCells #[z] m ++ Builtin.zeroCells #[z] (grownCap w (n + m) old e - (n + m))) e)).ownsRow base e 1
        (.slice (some ⟨w.heap.size, 0, none⟩) (n + m) (grownCap w (n + m) old e)) (n + m) (xs ++ List.replicate m z) ∧
      w.grownBy (w.drew.alloc (.cells (xs.toArray ++ Builtin.zeroCells #[z] m ++ Builtin.zeroCells #[z] (grownCap w (n + m) old e - (n + m))) e)) row := by
    intro old ho row
    have hge := grownCap_ge w (n + m) old e
    have hcm : grownCap w (n + m) old e ≤ maxLen := grownCap_le_maxLen w (n + m) old e h63
    refine ⟨⟨hlen, .inr ⟨w.heap.size, _, _, rfl, hbase, heap_alloc_new w.drew _, hge, hcm, ?_, ?_⟩⟩, ⟨rfl, rfl, rfl, by simp, fun k hk _ => Below.heap_alloc w.drew _ k hk⟩⟩
    · simp only [Array.size_append, List.size_toArray, size_zeroCells]
      simp
      omega
    · rw [hza]
      simp only [Array.toList_append, List.append_assoc]
      rw [← List.append_assoc, ← hlen]
      exact List.take_left
  rcases hown.2 with ⟨rfl, rfl⟩ | ⟨g, cap, cur, rfl, hbg, hg, hnc, hcm, hcs, htake⟩
  · have hx : xs = [] := List.eq_nil_of_length_eq_zero (by simpa using hown.1)
    subst hx
    by_cases hm : m = 0
    · subst hm
      refine ⟨.slice none 0 0, w, ?_, by simpa using World.ownsRow_nil w base e 1, ⟨rfl, rfl, rfl, Nat.le_refl _, fun _ _ _ => rfl⟩, Or.inl rfl⟩
      simp [Builtin.append_, run_underlying ht, run_underlying hu, sizeOf, typeInfo, hi, asInt, asIntOf, hwr, hwr0, hby]
    · have hgr := grown 0 (by omega) (Value.ownBlock (.slice none 0 0))
      simp only [Nat.zero_add, List.nil_append, Array.empty_append] at hgr ⊢
      refine ⟨_, _, ?_, hgr.1, hgr.2, Or.inr rfl⟩
      have hn : m ≠ 0 := by omega
      have h63' : ¬ (9223372036854775807 < (m : Int)) := by omega
      have h48' : ¬ (281474976710656 < Builtin.nextslicecap m 0) := by rw [nextslicecap_zero (by omega)]; omega
      simp [Builtin.append_, run_underlying ht, run_underlying hu, sizeOf, typeInfo, zeroValue, hi, hz, asInt, asIntOf, hwr, hwr0, hby, hsize, hm0, hm48, Builtin.lenOf, hn, h63', h48', Question.forced, run_firstCells_none, newRow, grownCap, hzc]
  · by_cases hroom : n + m ≤ cap
    · have hfit : n * 1 + (List.replicate m z).length ≤ cur.size := by rw [List.length_replicate, hcs]; omega
      have h1' : ∀ u ∈ List.replicate m z, u.oneCell' = true := fun u hu => by obtain rfl := (List.mem_replicate.1 hu).2; exact h1
      have hst := run_storeCells_at P g (n * 1) e (List.replicate m z) 0 cur w hg (by simpa using hfit) h1'
      simp only [Nat.add_zero, Nat.mul_one] at hst
      have hr : (Builtin.append_ #[t, u] ty #[.slice (some ⟨g, 0, none⟩) n cap, .int .i64 (m : Int)]).run P w = .ok (.slice (some ⟨g, 0, none⟩) (n + m) cap) (w.setRow g (cur.toList.take n ++ List.replicate m z ++ cur.toList.drop (n + (List.replicate m z).length)).toArray) := by
        by_cases hm : m = 0
        · subst hm
          simp at hst hroom
          simp [Builtin.append_, run_underlying ht, run_underlying hu, sizeOf, typeInfo, zeroValue, hi, hz, asInt, asIntOf, hwr, hwr0, hby, hsize, hroom, Addr.add_lit, hst]
        · simp [Builtin.append_, run_underlying ht, run_underlying hu, sizeOf, typeInfo, zeroValue, hi, hz, asInt, asIntOf, hwr, hwr0, hby, hsize, hm0, hm48, hm, hroom, Addr.add_lit, hzc, hzl, hst]
      refine ⟨_, _, hr, ⟨hlen, .inr ⟨g, cap, _, rfl, hbg, setRow_heap w g cur _ e _ hg, hroom, hcm, ?_, ?_⟩⟩, ⟨rfl, rfl, rfl, by simp, fun k _ hk => setRow_other w g k _ (fun e => hk (by simp [Value.ownBlock, e]))⟩, Or.inl rfl⟩
      · simp only [List.size_toArray, List.length_append, List.length_take, List.length_drop, Array.length_toList, List.length_replicate]
        rw [List.length_replicate] at hfit
        omega
      · rw [Nat.mul_one] at htake
        rw [htake, ← hlen]
        exact List.take_left
    · have holds : ∀ j u, xs[j]? = some u → w.cell? ((⟨g, 0, none⟩ : Addr).add j) = some u := hown.cells (g := g) rfl
      have hfo := run_firstCells_some (P := P) w.drew 1 n ⟨g, 0, none⟩ n cap xs (by omega) (by simpa using holds)
      have hgr := grown cap (by omega) (Value.ownBlock (.slice (some ⟨g, 0, none⟩) n cap))
      refine ⟨_, _, ?_, hgr.1, hgr.2, Or.inr rfl⟩
      have hn : ¬ (n + m ≤ cap) := by omega
      have hmn : m ≠ 0 := by omega
      have h63' : ¬ (9223372036854775807 < ((n : Int) + (m : Int))) := by omega
      have h48' : ¬ (281474976710656 < Builtin.nextslicecap (n + m) cap) := by have := growslice_fits (need := n + m) (old := cap) (bytes := 1) (by omega) (by omega); omega
      simp [Builtin.append_, run_underlying ht, run_underlying hu, sizeOf, typeInfo, zeroValue, hi, hz, asInt, asIntOf, hwr, hwr0, hby, hsize, hm0, hm48, hmn, hn, h63', h48', Question.forced, hfo, newRow, grownCap, hzc]

theorem wpList_append_zeros {P : Program} {w : World} {ops : Array Oper} {rest : List Oper} {o : Oper} {a : Act} {Q : Exit → Act → World → Prop} (hgd : o.guard = none) (s x : Operand) (t u : TypeId)
    (ho : o.op = .call { callee := .builtin .append, args := #[s, x], argTypes := #[t, u] })
    (base : Nat) (e : TypeId) (q : IntKind) (i : TypeInfo) (z : Value) (ht : P.underlying t = some (.slice e)) (hu : P.underlying u = some (.int q)) (hi : P.info? e = some i) (hz : i.zero = some z)
    (hsize : i.size = 1) (hby : i.bytes = 1) (hzc : z.cells = #[z]) (h1 : z.oneCell' = true)
    (v : Value) (n : Nat) (xs : List Value) (hs : a.eval s = v) (hown : w.ownsRow base e 1 v n xs) (m : Nat) (hx : a.eval x = .int .i64 (m : Int))
    (h63 : n + m ≤ maxLen) (hbytes : n + m ≤ 140737488355328) (hbase : base ≤ w.heap.size)
    (h : ∀ v' w', w'.ownsRow base e 1 v' (n + m) (xs ++ List.replicate m z) → w.grownBy w' v.ownBlock → (v'.ownBlock = v.ownBlock ∨ v'.ownBlock = some w.heap.size) → wpList P ops Q rest (a.put o.dst v') w') : wpList P ops Q (o :: rest) a w := by
  refine wpList_plain hgd fun K hK => ?_
  obtain ⟨v', w', hr, h2, h3, h4⟩ := run_append_zeros (P := P) (w := w) base t u o.type e q i z ht hu hi hz hsize hby hzc h1 v n xs hown m h63 hbytes hbase
  unfold Oper.wp execOp
  simp only [ho, resolve, invoke, builtin, Sem.run_bind, Sem.run_pure, Result.andThen_ok, List.map_toArray, List.map_cons, List.map_nil, hs, hx, hr]
  exact hK _ _ (h v' w' h2 h3 h4)

end Go.Proofs.Ytnengckecooohaa
/- Sums of 32 bits, as numbers: a halving is undone by what it leaves; 32 bits of a text at once; two texts that differ within 32 bits. -/
namespace Go.Proofs.Ytnengckecooohaa
set_option linter.unusedVariables false

def crcP : Nat := 3988292384
/-- One halving. -/
def crcZ (x : Nat) : Nat := x / 2 ^^^ (if x % 2 = 1 then crcP else 0)
def crcZs : Nat → Nat → Nat
  | 0, x => x
  | n + 1, x => crcZs n (crcZ x)
/-- The word behind a byte. -/
def crcStep (w b : Nat) : Nat := crcZs 8 (w ^^^ b)
def crcRun (w : Nat) (l : List UInt8) : Nat := l.foldl (fun w b => crcStep w b.toNat) w
def crcSum (l : List UInt8) : Nat := 4294967295 - crcRun 4294967295 l

theorem crcRun_append (w : Nat) (l m : List UInt8) : crcRun w (l ++ m) = crcRun (crcRun w l) m := List.foldl_append ..
theorem crcRun_snoc (w : Nat) (l : List UInt8) (b : UInt8) : crcRun w (l ++ [b]) = crcStep (crcRun w l) b.toNat := by rw [crcRun_append]; rfl

theorem crcZ_lt {x : Nat} (h : x < 4294967296) : crcZ x < 4294967296 := by
  unfold crcZ
  refine Nat.xor_lt_two_pow (n := 32) (by omega) ?_
  split
  · decide
  · decide
theorem crcZs_lt {n x : Nat} (h : x < 4294967296) : crcZs n x < 4294967296 := by
  induction n generalizing x with
  | zero => exact h
  | succ n ih => exact ih (crcZ_lt h)
theorem crcStep_lt {w b : Nat} (h : w < 4294967296) (hb : b < 256) : crcStep w b < 4294967296 := crcZs_lt (Nat.xor_lt_two_pow (n := 32) h (by omega))
theorem crcRun_lt {w : Nat} (h : w < 4294967296) (l : List UInt8) : crcRun w l < 4294967296 := by
  induction l generalizing w with
  | nil => exact h
  | cons b l ih => exact ih (crcStep_lt h b.toNat_lt)

theorem xor_drop {a b c : Nat} (h : a ^^^ c = b ^^^ c) : a = b := by
  have := congrArg (· ^^^ c) h
  simpa [Nat.xor_assoc] using this

/-- The highest bit tells whether the lowest one was let go. -/
theorem crcZ_top {x : Nat} (h : x < 4294967296) : (crcZ x).testBit 31 = decide (x % 2 = 1) := by
  have h1 : (x / 2).testBit 31 = false := Nat.testBit_lt_two_pow (by omega)
  unfold crcZ
  rw [Nat.testBit_xor, h1]
  split
  · rename_i h2
    simp [h2]
    decide
  · rename_i h2
    simp [h2]

theorem crcZ_inj {x y : Nat} (hx : x < 4294967296) (hy : y < 4294967296) (h : crcZ x = crcZ y) : x = y := by
  have h1 := crcZ_top hx
  rw [h, crcZ_top hy] at h1
  have h2 : (x % 2 = 1) ↔ (y % 2 = 1) := by
    have := h1.symm
    simpa using this
  have h3 : x / 2 = y / 2 := by
    unfold crcZ at h
    by_cases hb : x % 2 = 1
    · rw [if_pos hb, if_pos (h2.1 hb)] at h
      exact xor_drop h
    · rw [if_neg hb, if_neg (fun h' => hb (h2.2 h'))] at h
      simpa using h
  omega

theorem crcZs_inj {n x y : Nat} (hx : x < 4294967296) (hy : y < 4294967296) (h : crcZs n x = crcZs n y) : x = y := by
  induction n generalizing x y with
  | zero => exact h
  | succ n ih => exact crcZ_inj hx hy (ih (crcZ_lt hx) (crcZ_lt hy) h)

/-- Higher bits only move down. -/
theorem crcZ_even (x c : Nat) : crcZ (x ^^^ 2 * c) = crcZ x ^^^ c := by
  have h1 : (x ^^^ 2 * c) / 2 = x / 2 ^^^ c := by
    rw [Nat.xor_div_two]
    congr 1
    omega
  have h2 : (x ^^^ 2 * c) % 2 = x % 2 := by
    have h3 : (2 * c) % 2 = 0 := by omega
    have := Nat.xor_mod_two_pow (a := x) (b := 2 * c) (n := 1)
    simpa [h3] using this
  unfold crcZ
  rw [h1, h2, Nat.xor_assoc, Nat.xor_assoc, Nat.xor_comm c]

theorem crcZs_add (n m x : Nat) : crcZs (n + m) x = crcZs m (crcZs n x) := by
  induction n generalizing x with
  | zero => rw [Nat.zero_add]; rfl
  | succ n ih =>
    rw [Nat.succ_add]
    exact ih _

theorem crcZs_high (n x c : Nat) : crcZs n (x ^^^ 2 ^ n * c) = crcZs n x ^^^ c := by
  induction n generalizing x c with
  | zero => simp [crcZs]
  | succ n ih =>
    show crcZs n (crcZ (x ^^^ 2 ^ (n + 1) * c)) = crcZs n (crcZ x) ^^^ c
    rw [show 2 ^ (n + 1) * c = 2 * (2 ^ n * c) by rw [Nat.pow_succ, Nat.mul_comm (2 ^ n) 2, Nat.mul_assoc], crcZ_even, ih]

theorem low_high (u : Nat) : u = u % 256 ^^^ 2 ^ 8 * (u / 256) := by
  refine Nat.eq_of_testBit_eq fun i => ?_
  rw [show (256 : Nat) = 2 ^ 8 from rfl, Nat.testBit_xor, Nat.testBit_mod_two_pow, Nat.testBit_two_pow_mul, Nat.testBit_div_two_pow]
  by_cases hi : i < 8
  · have h5 : ¬ 8 ≤ i := by omega
    simp [hi, h5]
  · have h4 : 8 ≤ i := by omega
    simp [hi, h4, show i - 8 + 8 = i by omega]

/-- By a table of 256 words. -/
theorem crcStep_table {w b : Nat} (hb : b < 256) : crcStep w b = w / 256 ^^^ crcZs 8 ((w ^^^ b) % 256) := by
  have h1 : w ^^^ b = (w ^^^ b) % 256 ^^^ 2 ^ 8 * (w / 256) := by
    have h2 : (w ^^^ b) / 256 = w / 256 := by
      have h3 : b / 2 ^ 8 = 0 := by omega
      have := Nat.xor_div_two_pow (a := w) (b := b) (n := 8)
      rw [h3, Nat.xor_zero] at this
      exact this
    rw [← h2]
    exact low_high (w ^^^ b)
  show crcZs 8 (w ^^^ b) = _
  rw [h1, crcZs_high, ← h1, Nat.xor_comm]

end Go.Proofs.Ytnengckecooohaa
/- Rows of bytes: few, joined. -/
namespace Go.Proofs.Ytnengckecooohaa
open Go.RowKit
set_option linter.unusedVariables false

structure Part where
  A : Option Addr
  c : Nat
  bs : List UInt8

structure PartsAt (w : World) (A : Option Addr) (len : Nat) (l : List Part) : Prop where
  len : l.length = len
  at_ : ∀ i x, l[i]? = some x → ∃ b o, A = some ⟨b, o, none⟩ ∧ w.cell? ⟨b, o + i, none⟩ = some (.slice x.A x.bs.length x.c) ∧ BytesAt w (.slice x.A x.bs.length x.c) x.bs ∧ x.bs.length ≤ 9223372036854775807

theorem PartsAt.keep {w w' : World} {A : Option Addr} {len : Nat} {l : List Part} (h : PartsAt w A len l) (hk : Keeps [] w w') : PartsAt w' A len l := by
  refine ⟨h.len, fun i x hx => ?_⟩
  obtain ⟨b, o, h1, h2, h3, h4⟩ := h.at_ i x hx
  exact ⟨b, o, h1, (hk.cell (lt_of_cell h2) (by simp)).trans h2, h3.grow hk, h4⟩

def total (l : List Part) : Nat := (l.map fun x => x.bs.length).sum

theorem total_snoc (l : List Part) (x : Part) : total (l ++ [x]) = total l + x.bs.length := by simp [total]

end Go.Proofs.Ytnengckecooohaa
/- A range over a function whose iterator may itself range over one: what lies below the iterator's beginning is the rounds', what lies at or beyond it is the iterator's. -/
namespace Go.Proofs.Ytnengckecooohaa
open Go.RowKit Go.Shelf
set_option linter.unusedVariables false

/-- Of what was there, all that lies at n or beyond lies as it lay. -/
structure Over (n : Nat) (w w' : World) : Prop where
  os : w'.os = w.os
  tape : w'.tape = w.tape
  output : w'.output = w.output
  size : w.heap.size ≤ w'.heap.size
  block : ∀ k, n ≤ k → k < w.heap.size → w'.heap[k]? = w.heap[k]?

theorem Over.refl (n : Nat) (w : World) : Over n w w := ⟨rfl, rfl, rfl, Nat.le_refl _, fun _ _ _ => rfl⟩
theorem Over.trans {n : Nat} {a b c : World} (h : Over n a b) (k : Over n b c) : Over n a c :=
  ⟨k.os.trans h.os, k.tape.trans h.tape, k.output.trans h.output, Nat.le_trans h.size k.size, fun i hn hi => (k.block i hn (Nat.lt_of_lt_of_le hi h.size)).trans (h.block i hn hi)⟩
theorem Over.mono {n m : Nat} {a b : World} (h : Over n a b) (hm : n ≤ m) : Over m a b := ⟨h.os, h.tape, h.output, h.size, fun i hi => h.block i (Nat.le_trans hm hi)⟩
theorem Over.cell {n : Nat} {a b : World} (h : Over n a b) {p : Addr} (hn : n ≤ p.block) (hl : p.block < a.heap.size) : b.cell? p = a.cell? p := World.cell?_of_block (h.block _ hn hl)

/-- All that lies below n, and all cells, lie as they lay. -/
structure Kept (n : Nat) (w w' : World) : Prop where
  os : w'.os = w.os
  tape : w'.tape = w.tape
  output : w'.output = w.output
  size : w.heap.size ≤ w'.heap.size
  block : ∀ k o, w.heap[k]? = some o → k < n ∨ o.isCells = true → w'.heap[k]? = some o

theorem Kept.refl (n : Nat) (w : World) : Kept n w w := ⟨rfl, rfl, rfl, Nat.le_refl _, fun _ _ h _ => h⟩
theorem Kept.trans {n : Nat} {a b c : World} (h : Kept n a b) (k : Kept n b c) : Kept n a c :=
  ⟨k.os.trans h.os, k.tape.trans h.tape, k.output.trans h.output, Nat.le_trans h.size k.size, fun i o ho hi => k.block i o (h.block i o ho hi) hi⟩
theorem Kept.mono {n m : Nat} {a b : World} (h : Kept m a b) (hm : n ≤ m) : Kept n a b := ⟨h.os, h.tape, h.output, h.size, fun i o ho hi => h.block i o ho (hi.imp (fun h => Nat.lt_of_lt_of_le h hm) id)⟩
theorem Kept.alloc (n : Nat) (w : World) (o : Obj) : Kept n w (w.alloc o) := ⟨rfl, rfl, rfl, by simp, fun i o' ho _ => (Below.heap_alloc w o i (Array.getElem?_eq_some_iff.1 ho).1).trans ho⟩
theorem Kept.put {n : Nat} {w : World} {l : Nat} {o o' : Obj} (hn : n ≤ l) (h : w.heap[l]? = some o') (ho : o'.isCells = false) : Kept n w (w.putObj l o) :=
  ⟨rfl, rfl, rfl, by simp, fun i x hx hi => by
    have hne : i ≠ l := by
      rintro rfl
      rw [h] at hx
      cases hx
      rcases hi with hi | hi
      · omega
      · rw [ho] at hi; cases hi
    exact (World.putObj_heap_other hne).trans hx⟩
theorem Kept.below {n : Nat} {a b : World} (h : Kept n a b) (hn : n ≤ a.heap.size) : Below n a b :=
  ⟨h.os, h.tape, h.output, h.size, fun i hi => by
    have : i < a.heap.size := by omega
    rw [h.block i a.heap[i] (Array.getElem?_eq_getElem this) (.inl hi), Array.getElem?_eq_getElem this]⟩
theorem Kept.cell {n : Nat} {a b : World} (h : Kept n a b) {p : Addr} {v : Value} (hc : a.cell? p = some v) : b.cell? p = some v := by
  obtain ⟨o, h1, h2⟩ := cells_of_cell hc
  exact (World.cell?_of_block ((h.block _ o h1 (.inr h2)).trans h1.symm)).trans hc

/-- An invariant that an iterator's own steps leave. -/
def Under (n : Nat) (I : World → Prop) : Prop := ∀ A B, I A → Kept n A B → I B

theorem round_wide {m m' : Nat} {P : Program} {l : Nat} {f : FuncId} {tmps : Array Value} {assign body : Code} {w : World} {R : Ending → World → Prop}
    (h : RoundIn Fence.wide m P l f tmps assign body w R) : RoundIn Fence.wide m' P l f tmps assign body w R := ⟨h.1, fun c cs _ => h.2 c cs (room_wide _)⟩

/-- A call of yield. -/
def Asks (P : Program) (l : Nat) (args : Array Value) (W : World) (R : Ending → World → Prop) : Prop := ∀ m, YieldAt Fence.wide m P l args W R
theorem Asks.of {m : Nat} {P : Program} {l : Nat} {args : Array Value} {W : World} {R : Ending → World → Prop} (h : YieldAt Fence.wide m P l args W R) : Asks P l args W R := fun m' => by
  obtain ⟨fn, tmps, assign, body, hy, hR⟩ := h
  exact ⟨fn, tmps, assign, body, hy, round_wide hR⟩

/-- What an iterator promises: it hands out N things one behind the other, the k'th as E says; D stands all the while. Behind the M'th one it must be left. -/
def Seqs (P : Program) (g : Nat) (lb : Array Value) (E : Nat → Array Value → World → Prop) (N M : Nat) (D : World → Prop) : Prop :=
  ∀ (l : Nat) (J Jx : Nat → World → Prop) (W : World), D W → (∀ k, Under W.heap.size (J k)) → (∀ k, Under W.heap.size (Jx k)) →
    (∀ k A args, k < N → J k A → D A → W.heap.size ≤ A.heap.size → E k args A → Asks P l args A fun e B =>
      (e = .returned (.bool true) ∧ k < M ∧ J (k + 1) B ∧ D B ∧ Over W.heap.size A B) ∨ (e = .returned (.bool false) ∧ Jx k B ∧ Over W.heap.size A B)) →
    J 0 W → Calls P g (#[.func (.yield l) #[] #[]] ++ lb) W fun e B => (∃ v, e = .returned v) ∧ ((N ≤ M ∧ J N B) ∨ ∃ k, k < N ∧ Jx k B)

/-- How the body of a round may be left. -/
def seqPost (n M : Nat) (D : World → Prop) (I : Nat → World → Prop) (Ix : Code → Nat → World → Prop) (k : Nat) (W : World) : Exit → Act → World → Prop
  | .normal, _, W' => k < M ∧ I (k + 1) W' ∧ D W' ∧ Over n W W'
  | .ret, _, W' => Ix .ret k W' ∧ Over n W W'
  | .exit id, _, W' => Ix (.exit id) k W' ∧ Over n W W'
  | .goto t, _, W' => Ix (.goto t) k W' ∧ Over n W W'
  | .panic _, _, _ => False
  | .outgrown, _, _ => False

theorem range_seqs {P : Program} {n : Nat} {g : Operand} {ps : Array Tmp} {assign body : Code} {Q : Exit → Act → World → Prop} {a : Act} {w : World} {gf : Nat} {lb : Array Value} {E : Nat → Array Value → World → Prop} {N M : Nat} {D : World → Prop}
    (hg : a.eval g = .func (.func gf) #[] lb) (eg : ∀ args w, (callFunc gf args).run P w = .ok (.enter gf args) w) (hseq : Seqs P gf lb E N M D)
    (hps : ∀ k args W, E k args W → args.size = ps.size) (hD : Under w.heap.size D) (hD0 : D w)
    (I : Nat → World → Prop) (Ix : Code → Nat → World → Prop) (hI : ∀ k, Under w.heap.size (I k)) (hIx : ∀ c k, Under w.heap.size (Ix c k)) (h0 : I 0 w) (a₁ : Array Value → Act)
    (hE : ∀ k args A l o, E k args A → w.heap.size ≤ l → (∃ o', A.heap[l]? = some o' ∧ o'.isCells = false) → E k args (A.putObj l o))
    (hassign : ∀ (l : Nat) (k : Nat) (args : Array Value) (W : World) (K : Act → World → Prop), E k args W → K (a₁ args) W →
      assign.wpIn (Fence.wide.inRound l) 3 P (Exit.then K (fun _ _ _ => False)) { tmps := (ps.zip args).foldl (fun t (p, v) => t.setIfInBounds p v) a.tmps, defers := [] } W)
    (hbody : ∀ (l : Nat) (k : Nat) (args : Array Value) (W : World), k < N → I k W → D W → w.heap.size + 2 ≤ W.heap.size → E k args W → body.wpIn (Fence.wide.inRound l) 3 P (seqPost w.heap.size M D I Ix k W) (a₁ args) W)
    (hdone : ∀ (W : World), N ≤ M → I N W → W.heap[w.heap.size]? = some (.deferred (some [])) → Q .normal { a with defers := { target := .collected w.heap.size, args := #[] } :: a.defers } W)
    (hstop : ∀ (c : Code) (k : Nat) (W : World), k < N → Ix c k W → W.heap[w.heap.size]? = some (.deferred (some [])) → c.wpIn Fence.wide n P Q { a with defers := { target := .collected w.heap.size, args := #[] } :: a.defers } W) :
    (Code.rangeFunc g ps assign body).wpIn Fence.wide n P Q a w := by
  refine wpIn_rangeFunc ?_
  intro fn hfn
  let rec_ : LoopState → Option Code → Loop := fun st pe => { state := st, pending := pe, fn, tmps := a.tmps, params := ps, assign, body, defers := w.heap.size }
  obtain ⟨W1, hW1⟩ : ∃ W1, (w.alloc (.deferred (some []))).alloc (.loop (rec_ .ready none)) = W1 := ⟨_, rfl⟩
  have hz1 : W1.heap.size = w.heap.size + 2 := by rw [← hW1]; simp
  have hb1 : Kept w.heap.size w W1 := by
    rw [← hW1]
    exact (Kept.alloc _ w _).trans (Kept.alloc _ _ _)
  have hL1 : W1.heap[w.heap.size + 1]? = some (.loop (rec_ .ready none)) := by
    rw [← hW1]
    have := World.alloc_heap_new (w.alloc (.deferred (some []))) (.loop (rec_ .ready none))
    rwa [World.size_alloc] at this
  have hK1 : W1.heap[w.heap.size]? = some (.deferred (some [])) := by
    rw [← hW1]
    exact (Below.heap_alloc _ _ _ (by simp)).trans (World.alloc_heap_new w _)
  refine ⟨w.heap.size + 1, [{ target := .collected w.heap.size, args := #[] }], W1, { target := .fn (.func gf) lb, args := #[.func (.yield (w.heap.size + 1)) #[] #[]] }, W1, gf, #[.func (.yield (w.heap.size + 1)) #[] #[]] ++ lb, W1, ?_, ?_, fun _ _ => trivial, ?_, fun h => (by simp [Fence.wide] at h), callsIn_wide.2 ?_⟩
  · rw [← hW1]
    exact run_enterLoop_outer _ _ _ _ _
  · simp only [resolve, hg]
    simp [go_sem]
  · simp [invoke, go_sem, eg]
  have hu : ∀ {X : World → Prop}, Under w.heap.size X → Under W1.heap.size X := fun h A B ha hb => h A B ha (hb.mono (by omega))
  refine (hseq (w.heap.size + 1)
    (fun k W => I k W ∧ W.heap[w.heap.size + 1]? = some (.loop (rec_ .ready none)) ∧ W.heap[w.heap.size]? = some (.deferred (some [])))
    (fun k W => ∃ c, Ix c k W ∧ W.heap[w.heap.size + 1]? = some (.loop (rec_ .done (some c))) ∧ W.heap[w.heap.size]? = some (.deferred (some [])))
    W1 (hD _ _ hD0 hb1)
    (fun k A B h hb => ⟨hu (hI k) A B h.1 hb, hb.block _ _ h.2.1 (.inl (by omega)), hb.block _ _ h.2.2 (.inl (by omega))⟩)
    (fun k A B h hb => by
      obtain ⟨c, h1, h2, h3⟩ := h
      exact ⟨c, hu (hIx c k) A B h1 hb, hb.block _ _ h2 (.inl (by omega)), hb.block _ _ h3 (.inl (by omega))⟩)
    ?_ ⟨hI 0 _ _ h0 hb1, hL1, hK1⟩).mono ?_
  · rintro k A args hk ⟨hi, hl, hd⟩ hDA hz hEA
    refine Asks.of (m := 3) ⟨fn, _, assign, body, run_yield (P := P) (args := args) hl (hps _ _ _ hEA), roundIn_of_wpIn trivial (hassign _ k args A _ hEA ⟨_, run_beginRound hl rfl, ?_⟩)⟩
    have hlt : w.heap.size + 1 < A.heap.size := (Array.getElem?_eq_some_iff.1 hl).1
    obtain ⟨A2, hA2⟩ : ∃ A2, A.putObj (w.heap.size + 1) (.loop { rec_ .ready none with state := .busy }) = A2 := ⟨_, rfl⟩
    have hb2 : Kept w.heap.size A A2 := by rw [← hA2]; exact Kept.put (by omega) hl rfl
    have hl2 : A2.heap[w.heap.size + 1]? = some (.loop { rec_ .ready none with state := .busy }) := by rw [← hA2]; exact World.putObj_heap_same hlt
    have hd2 : A2.heap[w.heap.size]? = some (.deferred (some [])) := by rw [← hA2]; exact (World.putObj_heap_other (by omega)).trans hd
    have hE2 : E k args A2 := by rw [← hA2]; exact hE k args A _ _ hEA (by omega) ⟨_, hl, rfl⟩
    have hz2 : A2.heap.size = A.heap.size := by rw [← hA2]; exact World.putObj_size
    have ho2 : Over W1.heap.size A A2 := ⟨hb2.os, hb2.tape, hb2.output, hb2.size, fun i hi _ => by rw [← hA2]; exact World.putObj_heap_other (by omega)⟩
    rw [hA2]
    have over3 : ∀ {B : World} {o : Obj}, Over w.heap.size A2 B → Over W1.heap.size A (B.putObj (w.heap.size + 1) o) := fun {B o} h =>
      (ho2.trans (h.mono (by omega))).trans ⟨rfl, rfl, rfl, by simp, fun i hi _ => World.putObj_heap_other (by omega)⟩
    refine wpIn_mono (hbody _ k args A2 hk (hI k _ _ hi hb2) (hD _ _ hDA hb2) (by omega) hE2) ?_
    have fin : ∀ (jump : Option Code) (B : World), Over w.heap.size A2 B → (Instr.endRound (w.heap.size + 1) jump).run P B = .ok (.bool jump.isNone) (B.putObj (w.heap.size + 1) (.loop (rec_ (if jump.isNone then .ready else .done) jump))) ∧
        (B.putObj (w.heap.size + 1) (.loop (rec_ (if jump.isNone then .ready else .done) jump))).heap[w.heap.size + 1]? = some (.loop (rec_ (if jump.isNone then .ready else .done) jump)) ∧
        (B.putObj (w.heap.size + 1) (.loop (rec_ (if jump.isNone then .ready else .done) jump))).heap[w.heap.size]? = some (.deferred (some [])) ∧ Kept w.heap.size B (B.putObj (w.heap.size + 1) (.loop (rec_ (if jump.isNone then .ready else .done) jump))) := fun jump B hB => by
      have hl3 := (hB.block (w.heap.size + 1) (by omega) (by omega)).trans hl2
      exact ⟨run_endRound (P := P) jump hl3, World.putObj_heap_same (Array.getElem?_eq_some_iff.1 hl3).1, (World.putObj_heap_other (by omega)).trans ((hB.block _ (Nat.le_refl _) (by omega)).trans hd2), Kept.put (by omega) hl3 rfl⟩
    rintro e a3 B hp
    cases e with
    | normal =>
      obtain ⟨hm, hi3, hd3, hB⟩ := hp
      obtain ⟨hr, hl4, hd4, hb4⟩ := fin none B hB
      exact ⟨_, _, hr, .inl ⟨rfl, hm, ⟨hI _ _ _ hi3 hb4, hl4, hd4⟩, hD _ _ hd3 hb4, over3 hB⟩⟩
    | ret =>
      obtain ⟨hi3, hB⟩ := hp
      obtain ⟨hr, hl4, hd4, hb4⟩ := fin (some .ret) B hB
      exact ⟨_, _, hr, .inr ⟨rfl, ⟨.ret, hIx _ _ _ _ hi3 hb4, hl4, hd4⟩, over3 hB⟩⟩
    | exit id =>
      obtain ⟨hi3, hB⟩ := hp
      obtain ⟨hr, hl4, hd4, hb4⟩ := fin (some (.exit id)) B hB
      exact ⟨_, _, hr, .inr ⟨rfl, ⟨.exit id, hIx _ _ _ _ hi3 hb4, hl4, hd4⟩, over3 hB⟩⟩
    | goto t =>
      obtain ⟨hi3, hB⟩ := hp
      obtain ⟨hr, hl4, hd4, hb4⟩ := fin (some (.goto t)) B hB
      exact ⟨_, _, hr, .inr ⟨rfl, ⟨.goto t, hIx _ _ _ _ hi3 hb4, hl4, hd4⟩, over3 hB⟩⟩
    | panic ch => exact hp.elim
    | outgrown => exact hp.elim
  · rintro e B ⟨⟨v, rfl⟩, (⟨hNM, hi, hl, hd⟩ | ⟨k, hk, c, hi, hl, hd⟩)⟩
    · have hlt : w.heap.size + 1 < B.heap.size := (Array.getElem?_eq_some_iff.1 hl).1
      exact ⟨none, _, run_endLoop (P := P) hl (by simp [rec_]), hdone _ hNM (hI _ _ _ hi (Kept.put (by omega) hl rfl)) ((World.putObj_heap_other (by omega)).trans hd)⟩
    · have hlt : w.heap.size + 1 < B.heap.size := (Array.getElem?_eq_some_iff.1 hl).1
      exact ⟨some c, _, run_endLoop (P := P) hl (by simp [rec_]), hstop c k _ hk (hIx _ _ _ _ hi (Kept.put (by omega) hl rfl)) ((World.putObj_heap_other (by omega)).trans hd)⟩

end Go.Proofs.Ytnengckecooohaa
