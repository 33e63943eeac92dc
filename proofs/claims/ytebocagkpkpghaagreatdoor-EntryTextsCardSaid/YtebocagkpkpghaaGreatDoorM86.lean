/- Texts of one proof, laid together: W28 W29 W30. -/
import Derived.Shelf.Strings.Builder1
import Derived.Shelf.Strconv.Itoa3
import Derived.Test.YtebocagkpkpghaaGreatDoorM85
import Derived.Shelf.Strings.BuilderK
import Derived.Lib.AppendIntMem
import Derived.Lib.ItoaLen
/- entry: strings.Builder, strconv.Itoa, by the shelf's contracts. -/
namespace Go.Proofs.YtebocagkpkpghaaGreatDoor
open Go.RowKit Go.Shelf
set_option linter.unusedVariables false

def text_ren : Go.Shelf.Ren := ⟨fun | 129 => 120 | 171 => 55 | 243 => 76 | 246 => 89 | 283 => 101 | 284 => 102 | 285 => 103 | 286 => 104 | 317 => 125 | 318 => 126 | 319 => 127 | 320 => 128 | 337 => 142 | 338 => 143 | 166 => 54 | 169 => 56 | 240 => 75 | 276 => 88 | n => n, fun | 0 => 0 | 2 => 2 | 3 => 3 | 4 => 4 | 5 => 5 | 9 => 9 | 20 => 20 | 37 => 81 | 46 => 134 | 51 => 156 | 53 => 137 | 171 => 136 | 173 => 140 | 212 => 164 | 213 => 165 | 232 => 189 | 233 => 190 | 70 => 80 | 72 => 83 | 75 => 85 | 80 => 89 | 127 => 114 | 164 => 123 | n => n, fun | 17 => 0 | 18 => 3 | 19 => 4 | n => n⟩
theorem write_lays : Lays.n166 Tryz.prog text_ren where
  mixed := by kernel_rfl
  f166 := Tryz.func54.trans (congrArg some (by kernel_rfl))
  f240 := Tryz.func75.trans (congrArg some (by kernel_rfl))
  f276 := Tryz.func88.trans (congrArg some (by kernel_rfl))
  t0 := Tryz.underlying0
  a0 := Tryz.isAgg0
  z0 := Tryz.sizeOf0
  v0 := Tryz.zeroValue0
  t3 := Tryz.underlying3
  a3 := Tryz.isAgg3
  z3 := Tryz.sizeOf3
  v3 := Tryz.zeroValue3
  t4 := Tryz.underlying4
  a4 := Tryz.isAgg4
  z4 := Tryz.sizeOf4
  v4 := Tryz.zeroValue4
  t9 := Tryz.underlying9
  a9 := Tryz.isAgg9
  z9 := Tryz.sizeOf9
  v9 := Tryz.zeroValue9
  t20 := Tryz.underlying20
  a20 := Tryz.isAgg20
  z20 := Tryz.sizeOf20
  v20 := Tryz.zeroValue20
  t37 := Tryz.underlying81
  a37 := Tryz.isAgg81
  z37 := Tryz.sizeOf81
  v37 := Tryz.zeroValue81
  t70 := Tryz.underlying80
  a70 := Tryz.isAgg80
  z70 := Tryz.sizeOf80
  v70 := Tryz.zeroValue80
  t72 := Tryz.underlying83
  a72 := Tryz.isAgg83
  z72 := Tryz.sizeOf83
  v72 := Tryz.zeroValue83
  t75 := Tryz.underlying85
  a75 := Tryz.isAgg85
  z75 := Tryz.sizeOf85
  v75 := Tryz.zeroValue85
  t164 := Tryz.underlying123
  a164 := Tryz.isAgg123
  z164 := Tryz.sizeOf123
  v164 := Tryz.zeroValue123
theorem string_lays : Lays.n169 Tryz.prog text_ren where
  mixed := by kernel_rfl
  f169 := Tryz.func56.trans (congrArg some (by kernel_rfl))
  t0 := Tryz.underlying0
  a0 := Tryz.isAgg0
  z0 := Tryz.sizeOf0
  v0 := Tryz.zeroValue0
  t3 := Tryz.underlying3
  a3 := Tryz.isAgg3
  z3 := Tryz.sizeOf3
  v3 := Tryz.zeroValue3
  t9 := Tryz.underlying9
  a9 := Tryz.isAgg9
  z9 := Tryz.sizeOf9
  v9 := Tryz.zeroValue9
  t37 := Tryz.underlying81
  a37 := Tryz.isAgg81
  z37 := Tryz.sizeOf81
  v37 := Tryz.zeroValue81
  t70 := Tryz.underlying80
  a70 := Tryz.isAgg80
  z70 := Tryz.sizeOf80
  v70 := Tryz.zeroValue80
  t72 := Tryz.underlying83
  a72 := Tryz.isAgg83
  z72 := Tryz.sizeOf83
  v72 := Tryz.zeroValue83
  t127 := Tryz.underlying114
  a127 := Tryz.isAgg114
  z127 := Tryz.sizeOf114
  v127 := Tryz.zeroValue114
theorem text_extra : Builder.Extra Tryz.prog text_ren where
  sizeBuilder := by kernel_rfl
  liesBuilder := by kernel_rfl
  t5 := Tryz.underlying5
  a5 := Tryz.isAgg5
  z5 := Tryz.sizeOf5
  v5 := Tryz.zeroValue5
  infoByte := by kernel_rfl
  cellsByte := by kernel_rfl
  sizeByte := by kernel_rfl
  neB5 := by decide
theorem itoa_lays : LaysM.n171 Tryz.prog text_ren where
  mixed := by kernel_rfl
  f129 := Tryz.func120.trans (congrArg some (by kernel_rfl))
  f171 := Tryz.func55.trans (congrArg some (by kernel_rfl))
  f243 := Tryz.func76.trans (congrArg some (by kernel_rfl))
  f246 := Tryz.func89.trans (congrArg some (by kernel_rfl))
  f283 := Tryz.func101.trans (congrArg some (by kernel_rfl))
  f284 := Tryz.func102.trans (congrArg some (by kernel_rfl))
  f285 := Tryz.func103.trans (congrArg some (by kernel_rfl))
  f286 := Tryz.func104.trans (congrArg some (by kernel_rfl))
  f317 := Tryz.func125.trans (congrArg some (by kernel_rfl))
  f318 := Tryz.func126.trans (congrArg some (by kernel_rfl))
  f319 := Tryz.func127.trans (congrArg some (by kernel_rfl))
  f320 := Tryz.func128.trans (congrArg some (by kernel_rfl))
  f337 := Tryz.func142.trans (congrArg some (by kernel_rfl))
  f338 := Tryz.func143.trans (congrArg some (by kernel_rfl))
  t0 := Tryz.underlying0
  a0 := Tryz.isAgg0
  z0 := Tryz.sizeOf0
  v0 := Tryz.zeroValue0
  t2 := Tryz.underlying2
  a2 := Tryz.isAgg2
  z2 := Tryz.sizeOf2
  v2 := Tryz.zeroValue2
  t3 := Tryz.underlying3
  a3 := Tryz.isAgg3
  z3 := Tryz.sizeOf3
  v3 := Tryz.zeroValue3
  t4 := Tryz.underlying4
  a4 := Tryz.isAgg4
  z4 := Tryz.sizeOf4
  v4 := Tryz.zeroValue4
  t5 := Tryz.underlying5
  a5 := Tryz.isAgg5
  z5 := Tryz.sizeOf5
  v5 := Tryz.zeroValue5
  t9 := Tryz.underlying9
  a9 := Tryz.isAgg9
  z9 := Tryz.sizeOf9
  v9 := Tryz.zeroValue9
  t20 := Tryz.underlying20
  a20 := Tryz.isAgg20
  z20 := Tryz.sizeOf20
  v20 := Tryz.zeroValue20
  t37 := Tryz.underlying81
  a37 := Tryz.isAgg81
  z37 := Tryz.sizeOf81
  v37 := Tryz.zeroValue81
  t46 := Tryz.underlying134
  a46 := Tryz.isAgg134
  z46 := Tryz.sizeOf134
  v46 := Tryz.zeroValue134
  t51 := Tryz.underlying156
  a51 := Tryz.isAgg156
  z51 := Tryz.sizeOf156
  v51 := Tryz.zeroValue156
  t53 := Tryz.underlying137
  a53 := Tryz.isAgg137
  z53 := Tryz.sizeOf137
  v53 := Tryz.zeroValue137
  t171 := Tryz.underlying136
  a171 := Tryz.isAgg136
  z171 := Tryz.sizeOf136
  v171 := Tryz.zeroValue136
  t173 := Tryz.underlying140
  a173 := Tryz.isAgg140
  z173 := Tryz.sizeOf140
  v173 := Tryz.zeroValue140
  t212 := Tryz.underlying164
  a212 := Tryz.isAgg164
  z212 := Tryz.sizeOf164
  v212 := Tryz.zeroValue164
  t213 := Tryz.underlying165
  a213 := Tryz.isAgg165
  z213 := Tryz.sizeOf165
  t232 := Tryz.underlying189
  a232 := Tryz.isAgg189
  z232 := Tryz.sizeOf189
  v232 := Tryz.zeroValue189
  t233 := Tryz.underlying190
  a233 := Tryz.isAgg190
  z233 := Tryz.sizeOf190
  v233 := Tryz.zeroValue190
  g17 := by kernel_rfl
  g18 := by kernel_rfl
  g19 := by kernel_rfl
  i0 := by kernel_rfl
  i2 := by kernel_rfl
  i3 := by kernel_rfl
  i4 := by kernel_rfl
  i5 := by kernel_rfl
  i9 := by kernel_rfl
  i20 := by kernel_rfl
  i37 := by kernel_rfl
  i46 := by kernel_rfl
  i51 := by kernel_rfl
  i53 := by kernel_rfl
  i171 := by kernel_rfl
  i173 := by kernel_rfl
  i212 := by kernel_rfl
  i232 := by kernel_rfl
  i233 := by kernel_rfl
  m17 := by kernel_rfl
  m18 := by kernel_rfl
  m19 := by kernel_rfl
end Go.Proofs.YtebocagkpkpghaaGreatDoor
/- entry: what strings.Builder and strconv.Itoa do, told for a text under way. -/
namespace Go.Proofs.YtebocagkpkpghaaGreatDoor
open Go.RowKit Go.Shelf
set_option linter.unusedVariables false
set_option linter.unusedSimpArgs false
set_option maxRecDepth 100000

/-- A builder in a block of the call's own, and the text that it holds. -/
def BuiT (b : Nat) (l : Txt) (w : World) : Prop := Lib.IsBuilderF 83 5 b b (Lib.byteCells l) w ∧ b ≤ w.heap.size
/-- What a call on a builder leaves: all that lay below it, and above it all but rows of bytes. -/
def Beside (b : Nat) (w w' : World) : Prop := Below b w w' ∧ Lib.OthersKept 5 (some b) w w'
theorem Beside.blk {b g : Nat} {w w' : World} {cs : Array Value} {t : TypeId} (h : Beside b w w') (hg : w.heap[g]? = some (.cells cs t (0, 0))) (hb : g ≠ b) (ht : t ≠ 5) : w'.heap[g]? = some (.cells cs t (0, 0)) :=
  h.2 g _ hg (fun e => hb (by injection e)) (fun c fz e => by injection e with _ e _; exact ht e)
theorem Beside.keeps {b : Nat} {w w0 w' : World} (h : Beside b w w') (hk : Keeps [] w0 w) (hb : w0.heap.size ≤ b) : Keeps [] w0 w' :=
  ⟨h.1.os.trans hk.os, h.1.tape.trans hk.tape, h.1.output.trans hk.output, Nat.le_trans hk.size h.1.size, fun i hi hn => (h.1.block i (Nat.lt_of_lt_of_le hi hb)).trans (hk.block i hi hn)⟩
theorem write_is (b : Nat) (l s : Txt) (w : World) (h : BuiT b l w) (hl : l.length + s.length ≤ 140737488355328) :
    Calls Tryz.prog 54 #[.pointer (some ⟨b, 0, none⟩), .string ⟨s.toArray⟩] w fun e w' => (∃ v, e = .returned v) ∧ BuiT b (l ++ s) w' ∧ Beside b w w' := by
  refine (Any.Builder_WriteString_k write_lays text_extra b b (Lib.byteCells l) ⟨s.toArray⟩ w h.1 (by simpa [Lib.byteCells, ByteArray.size] using hl) h.2).mono ?_
  rintro e w' ⟨rfl, h1, h2, h3⟩
  refine ⟨⟨_, rfl⟩, ⟨.inr ?_, Nat.le_trans h.2 h2.size⟩, h2, h3⟩
  have e1 : Lib.byteCells (l ++ s) = Lib.byteCells l ++ Lib.strCells ⟨s.toArray⟩ := by simp [Lib.byteCells, Lib.strCells]
  rw [e1]
  exact h1
theorem string_is (b : Nat) (l : Txt) (w : World) (h : BuiT b l w) :
    Calls Tryz.prog 56 #[.pointer (some ⟨b, 0, none⟩)] w fun e w' => e = .returned (.string ⟨l.toArray⟩) ∧ Beside b w w' := by
  refine (Any.Builder_String_any_k string_lays text_extra b b l w h.1 h.2).mono ?_
  rintro e w' ⟨rfl, _, h2, h3⟩
  exact ⟨rfl, h2, h3⟩
/-- The table of the powers of ten, as it is laid. -/
def PowAt (w : World) : Prop := Lib.TabIs Tryz.prog w "internal/strconv.uint64pow10" .u64 Lib.pow10Tab
theorem PowAt.keep {w w' : World} (h : PowAt w) (hk : Keeps [] w w') : PowAt w' := by
  unfold PowAt Lib.TabIs World.var? at h ⊢
  cases hg : Tryz.prog.globalNamed "internal/strconv.uint64pow10" with
  | none => rw [hg] at h; cases h
  | some g =>
    rw [hg] at h
    simp only [Option.bind_some] at h ⊢
    have hlt : g < w.heap.size := by
      rcases Nat.lt_or_ge g w.heap.size with h1 | h1
      · exact h1
      · rw [Array.getElem?_eq_none h1] at h
        cases h
    rw [hk.block g hlt (by simp)]
    exact h
theorem itoa_is (n : Nat) (w : World) (hn : n ≤ 9223372036854775807) (h : PowAt w) :
    Calls Tryz.prog 55 #[.int .i64 (n : Int)] w fun e w' => e = .returned (.string ⟨(Lib.decDigits n).toArray⟩) ∧ Keeps [] w w' := by
  refine (Any.strconv_Itoa itoa_lays (n : Int) (by omega) (by omega) w h).mono ?_
  rintro e w' ⟨rfl, k, os, rfl⟩
  exact ⟨by rw [Lib.itoa_nonneg], Keeps.of_below (Lib.below_grow _ w (Nat.le_refl _) k os)⟩
theorem digits_len (n : Nat) (hn : n ≤ 9223372036854775807) : (Lib.decDigits n).length ≤ 21 := by
  have := Lib.itoa_length_le (n : Int) (by omega) (by omega)
  rwa [Lib.itoa_nonneg] at this
theorem ownF_keep {w w' : World} {base : Nat} {e : TypeId} {k : Nat} {v : Value} {n : Nat} {xs : List Value} (h : w.ownsRowF base e k v n xs) (hk : Keeps [] w w') : w'.ownsRowF base e k v n xs := by
  refine ⟨h.1, ?_⟩
  rcases h.2 with h2 | ⟨g, cap, cur, fz, hv, hb, hh, r⟩
  · exact .inl h2
  · exact .inr ⟨g, cap, cur, fz, hv, hb, (hk.block g (lt_of_heap hh) (by simp)).trans hh, r⟩
/-- A builder stays as it is where only new blocks come. -/
theorem BuiT.keep {b : Nat} {l : Txt} {w w' : World} (h : BuiT b l w) (hk : Keeps [] w w') : BuiT b l w' := by
  obtain ⟨h1, h2⟩ := h
  have hb : ∀ p, Lib.BuilderAtF 83 5 b b p (Lib.byteCells l) w → Lib.BuilderAtF 83 5 b b p (Lib.byteCells l) w' := fun p hp => by
    obtain ⟨e1, v, e2, e3, e4⟩ := hp
    exact ⟨e1, v, blk_keep e2 hk (by simp), ownF_keep e3 hk, e4⟩
  refine ⟨?_, Nat.le_trans h2 hk.size⟩
  rcases h1 with h1 | h1
  · exact .inl (hb _ h1)
  · exact .inr (hb _ h1)
theorem BuiT.made (w : World) : BuiT w.heap.size [] (w.alloc (.cells #[.pointer none, .slice none 0 0] 83)) := by
  refine ⟨.inl ⟨Nat.le_refl _, .slice none 0 0, heap_new8 w _, ⟨rfl, .inl ⟨rfl, rfl⟩⟩, by simp [Value.ownBlock]⟩, by simp⟩
end Go.Proofs.YtebocagkpkpghaaGreatDoor
/- entry: Text; walked. -/
namespace Go.Proofs.YtebocagkpkpghaaGreatDoor
open Go.RowKit Go.Shelf
set_option linter.unusedVariables false
set_option linter.unusedSimpArgs false
set_option maxRecDepth 100000

def lineN (a : Att) : Txt := a.1 ++ [32] ++ Lib.decDigits a.2.length ++ [10]
def lineV (v : Txt) : Txt := Lib.decDigits v.length ++ [32] ++ v ++ [10]
def attT (a : Att) : Txt := lineN a ++ a.2.flatMap lineV
def textE (e : List Att) : Txt := e.flatMap attT
def textP (e : List Att) : Txt × Nat := if entOk e = true then (textE e, 0) else ([], 2)
theorem flat_take {α : Type} {l : List α} {f : α → Txt} {j : Nat} {a : α} (h : l[j]? = some a) : (l.take (j + 1)).flatMap f = (l.take j).flatMap f ++ f a := by
  rw [List.take_add_one, h, List.flatMap_append]
  simp
theorem flat_len {α : Type} {f : α → Txt} {m : Nat} : ∀ {l : List α}, (∀ a ∈ l, (f a).length ≤ m) → (l.flatMap f).length ≤ l.length * m
  | [], _ => by simp
  | a :: r, h => by
    have h1 := flat_len (f := f) (m := m) (l := r) (fun x hx => h x (List.mem_cons_of_mem _ hx))
    have h2 := h a (by simp)
    rw [List.flatMap_cons, List.length_append, List.length_cons, Nat.add_mul, Nat.one_mul]
    omega
theorem lineV_len {v : Txt} (h : v.length ≤ 1000000) : (lineV v).length ≤ 1000023 := by
  have := digits_len v.length (by omega)
  unfold lineV
  simp only [List.length_append, List.length_cons, List.length_nil]
  omega
theorem lineN_len {a : Att} (h : a.1.length ≤ 1000000) (h2 : a.2.length ≤ 1000) : (lineN a).length ≤ 1000023 := by
  have := digits_len a.2.length (by omega)
  unfold lineN
  simp only [List.length_append, List.length_cons, List.length_nil]
  omega
theorem cat_is (a b : Txt) (h : a.length + b.length ≤ 9223372036854775807) (W : World) : (Op.stringOp .add ⟨a.toArray⟩ ⟨b.toArray⟩).run Tryz.prog W = .ok (.string ⟨(a ++ b).toArray⟩) W := by
  have h1 := run_string_add_sum (P := Tryz.prog) W ⟨a.toArray⟩ ⟨b.toArray⟩ (by
    have e1 : (⟨a.toArray⟩ : ByteArray).size = a.length := rfl
    have e2 : (⟨b.toArray⟩ : ByteArray).size = b.length := rfl
    rw [e1, e2]
    exact h)
  rw [h1]
  congr 2
end Go.Proofs.YtebocagkpkpghaaGreatDoor
