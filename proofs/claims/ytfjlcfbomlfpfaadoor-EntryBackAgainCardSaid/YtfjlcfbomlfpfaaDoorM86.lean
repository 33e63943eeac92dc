/- Texts of one proof, laid together: W28 W29 W30. -/
import Derived.Shelf.Strings.Builder1
import Derived.Shelf.Strconv.Itoa3
import Derived.Test.YtfjlcfbomlfpfaaDoorM85
import Derived.Shelf.Strings.BuilderK
import Derived.Lib.AppendIntMem
import Derived.Lib.ItoaLen
/- entry: strings.Builder, strconv.Itoa, by the shelf's contracts. -/
namespace Go.Proofs.YtfjlcfbomlfpfaaDoor
open Go.RowKit Go.Shelf
set_option linter.unusedVariables false

def text_ren : Go.Shelf.Ren := ⟨fun | 129 => 79 | 171 => 32 | 243 => 45 | 246 => 55 | 283 => 63 | 284 => 64 | 285 => 65 | 286 => 66 | 317 => 84 | 318 => 85 | 319 => 86 | 320 => 87 | 337 => 95 | 338 => 96 | 166 => 31 | 169 => 33 | 240 => 44 | 276 => 54 | n => n, fun | 0 => 0 | 2 => 2 | 3 => 3 | 4 => 4 | 5 => 5 | 9 => 9 | 20 => 20 | 37 => 65 | 46 => 105 | 51 => 124 | 53 => 108 | 171 => 107 | 173 => 111 | 212 => 132 | 213 => 133 | 232 => 146 | 233 => 147 | 70 => 64 | 72 => 67 | 75 => 69 | 80 => 73 | 127 => 90 | 164 => 97 | n => n, fun | 17 => 0 | 18 => 1 | 19 => 2 | n => n⟩
theorem write_lays : Lays.n166 Tryd.prog text_ren where
  mixed := by kernel_rfl
  f166 := Tryd.func31.trans (congrArg some (by kernel_rfl))
  f240 := Tryd.func44.trans (congrArg some (by kernel_rfl))
  f276 := Tryd.func54.trans (congrArg some (by kernel_rfl))
  t0 := Tryd.underlying0
  a0 := Tryd.isAgg0
  z0 := Tryd.sizeOf0
  v0 := Tryd.zeroValue0
  t3 := Tryd.underlying3
  a3 := Tryd.isAgg3
  z3 := Tryd.sizeOf3
  v3 := Tryd.zeroValue3
  t4 := Tryd.underlying4
  a4 := Tryd.isAgg4
  z4 := Tryd.sizeOf4
  v4 := Tryd.zeroValue4
  t9 := Tryd.underlying9
  a9 := Tryd.isAgg9
  z9 := Tryd.sizeOf9
  v9 := Tryd.zeroValue9
  t20 := Tryd.underlying20
  a20 := Tryd.isAgg20
  z20 := Tryd.sizeOf20
  v20 := Tryd.zeroValue20
  t37 := Tryd.underlying65
  a37 := Tryd.isAgg65
  z37 := Tryd.sizeOf65
  v37 := Tryd.zeroValue65
  t70 := Tryd.underlying64
  a70 := Tryd.isAgg64
  z70 := Tryd.sizeOf64
  v70 := Tryd.zeroValue64
  t72 := Tryd.underlying67
  a72 := Tryd.isAgg67
  z72 := Tryd.sizeOf67
  v72 := Tryd.zeroValue67
  t75 := Tryd.underlying69
  a75 := Tryd.isAgg69
  z75 := Tryd.sizeOf69
  v75 := Tryd.zeroValue69
  t164 := Tryd.underlying97
  a164 := Tryd.isAgg97
  z164 := Tryd.sizeOf97
  v164 := Tryd.zeroValue97
theorem string_lays : Lays.n169 Tryd.prog text_ren where
  mixed := by kernel_rfl
  f169 := Tryd.func33.trans (congrArg some (by kernel_rfl))
  t0 := Tryd.underlying0
  a0 := Tryd.isAgg0
  z0 := Tryd.sizeOf0
  v0 := Tryd.zeroValue0
  t3 := Tryd.underlying3
  a3 := Tryd.isAgg3
  z3 := Tryd.sizeOf3
  v3 := Tryd.zeroValue3
  t9 := Tryd.underlying9
  a9 := Tryd.isAgg9
  z9 := Tryd.sizeOf9
  v9 := Tryd.zeroValue9
  t37 := Tryd.underlying65
  a37 := Tryd.isAgg65
  z37 := Tryd.sizeOf65
  v37 := Tryd.zeroValue65
  t70 := Tryd.underlying64
  a70 := Tryd.isAgg64
  z70 := Tryd.sizeOf64
  v70 := Tryd.zeroValue64
  t72 := Tryd.underlying67
  a72 := Tryd.isAgg67
  z72 := Tryd.sizeOf67
  v72 := Tryd.zeroValue67
  t127 := Tryd.underlying90
  a127 := Tryd.isAgg90
  z127 := Tryd.sizeOf90
  v127 := Tryd.zeroValue90
theorem text_extra : Builder.Extra Tryd.prog text_ren where
  sizeBuilder := by kernel_rfl
  liesBuilder := by kernel_rfl
  t5 := Tryd.underlying5
  a5 := Tryd.isAgg5
  z5 := Tryd.sizeOf5
  v5 := Tryd.zeroValue5
  infoByte := by kernel_rfl
  cellsByte := by kernel_rfl
  sizeByte := by kernel_rfl
  neB5 := by decide
theorem itoa_lays : LaysM.n171 Tryd.prog text_ren where
  mixed := by kernel_rfl
  f129 := Tryd.func79.trans (congrArg some (by kernel_rfl))
  f171 := Tryd.func32.trans (congrArg some (by kernel_rfl))
  f243 := Tryd.func45.trans (congrArg some (by kernel_rfl))
  f246 := Tryd.func55.trans (congrArg some (by kernel_rfl))
  f283 := Tryd.func63.trans (congrArg some (by kernel_rfl))
  f284 := Tryd.func64.trans (congrArg some (by kernel_rfl))
  f285 := Tryd.func65.trans (congrArg some (by kernel_rfl))
  f286 := Tryd.func66.trans (congrArg some (by kernel_rfl))
  f317 := Tryd.func84.trans (congrArg some (by kernel_rfl))
  f318 := Tryd.func85.trans (congrArg some (by kernel_rfl))
  f319 := Tryd.func86.trans (congrArg some (by kernel_rfl))
  f320 := Tryd.func87.trans (congrArg some (by kernel_rfl))
  f337 := Tryd.func95.trans (congrArg some (by kernel_rfl))
  f338 := Tryd.func96.trans (congrArg some (by kernel_rfl))
  t0 := Tryd.underlying0
  a0 := Tryd.isAgg0
  z0 := Tryd.sizeOf0
  v0 := Tryd.zeroValue0
  t2 := Tryd.underlying2
  a2 := Tryd.isAgg2
  z2 := Tryd.sizeOf2
  v2 := Tryd.zeroValue2
  t3 := Tryd.underlying3
  a3 := Tryd.isAgg3
  z3 := Tryd.sizeOf3
  v3 := Tryd.zeroValue3
  t4 := Tryd.underlying4
  a4 := Tryd.isAgg4
  z4 := Tryd.sizeOf4
  v4 := Tryd.zeroValue4
  t5 := Tryd.underlying5
  a5 := Tryd.isAgg5
  z5 := Tryd.sizeOf5
  v5 := Tryd.zeroValue5
  t9 := Tryd.underlying9
  a9 := Tryd.isAgg9
  z9 := Tryd.sizeOf9
  v9 := Tryd.zeroValue9
  t20 := Tryd.underlying20
  a20 := Tryd.isAgg20
  z20 := Tryd.sizeOf20
  v20 := Tryd.zeroValue20
  t37 := Tryd.underlying65
  a37 := Tryd.isAgg65
  z37 := Tryd.sizeOf65
  v37 := Tryd.zeroValue65
  t46 := Tryd.underlying105
  a46 := Tryd.isAgg105
  z46 := Tryd.sizeOf105
  v46 := Tryd.zeroValue105
  t51 := Tryd.underlying124
  a51 := Tryd.isAgg124
  z51 := Tryd.sizeOf124
  v51 := Tryd.zeroValue124
  t53 := Tryd.underlying108
  a53 := Tryd.isAgg108
  z53 := Tryd.sizeOf108
  v53 := Tryd.zeroValue108
  t171 := Tryd.underlying107
  a171 := Tryd.isAgg107
  z171 := Tryd.sizeOf107
  v171 := Tryd.zeroValue107
  t173 := Tryd.underlying111
  a173 := Tryd.isAgg111
  z173 := Tryd.sizeOf111
  v173 := Tryd.zeroValue111
  t212 := Tryd.underlying132
  a212 := Tryd.isAgg132
  z212 := Tryd.sizeOf132
  v212 := Tryd.zeroValue132
  t213 := Tryd.underlying133
  a213 := Tryd.isAgg133
  z213 := Tryd.sizeOf133
  t232 := Tryd.underlying146
  a232 := Tryd.isAgg146
  z232 := Tryd.sizeOf146
  v232 := Tryd.zeroValue146
  t233 := Tryd.underlying147
  a233 := Tryd.isAgg147
  z233 := Tryd.sizeOf147
  v233 := Tryd.zeroValue147
  g17 := by kernel_rfl
  g18 := by kernel_rfl
  g19 := by kernel_rfl
  i0 := by kernel_rfl
  i2 := by kernel_rfl
  i3 := by kernel_rfl
  i4 := by kernel_rfl
  i5 := by kernel_rfl
  i9 := by kernel_rfl
  i20 := by kernel_rfl
  i37 := by kernel_rfl
  i46 := by kernel_rfl
  i51 := by kernel_rfl
  i53 := by kernel_rfl
  i171 := by kernel_rfl
  i173 := by kernel_rfl
  i212 := by kernel_rfl
  i232 := by kernel_rfl
  i233 := by kernel_rfl
  m17 := by kernel_rfl
  m18 := by kernel_rfl
  m19 := by kernel_rfl
end Go.Proofs.YtfjlcfbomlfpfaaDoor
/- entry: what strings.Builder and strconv.Itoa do, told for a text under way. -/
namespace Go.Proofs.YtfjlcfbomlfpfaaDoor
open Go.RowKit Go.Shelf
set_option linter.unusedVariables false
set_option linter.unusedSimpArgs false
set_option maxRecDepth 100000

/-- A builder in a block of the call's own, and the text that it holds. -/
def BuiT (b : Nat) (l : Txt) (w : World) : Prop := Lib.IsBuilderF 67 5 b b (Lib.byteCells l) w ∧ b ≤ w.heap.size
/-- What a call on a builder leaves: all that lay below it, and above it all but rows of bytes. -/
def Beside (b : Nat) (w w' : World) : Prop := Below b w w' ∧ Lib.OthersKept 5 (some b) w w'
theorem Beside.blk {b g : Nat} {w w' : World} {cs : Array Value} {t : TypeId} (h : Beside b w w') (hg : w.heap[g]? = some (.cells cs t (0, 0))) (hb : g ≠ b) (ht : t ≠ 5) : w'.heap[g]? = some (.cells cs t (0, 0)) :=
  h.2 g _ hg (fun e => hb (by injection e)) (fun c fz e => by injection e with _ e _; exact ht e)
theorem Beside.keeps {b : Nat} {w w0 w' : World} (h : Beside b w w') (hk : Keeps [] w0 w) (hb : w0.heap.size ≤ b) : Keeps [] w0 w' :=
  ⟨h.1.os.trans hk.os, h.1.tape.trans hk.tape, h.1.output.trans hk.output, Nat.le_trans hk.size h.1.size, fun i hi hn => (h.1.block i (Nat.lt_of_lt_of_le hi hb)).trans (hk.block i hi hn)⟩
theorem write_is (b : Nat) (l s : Txt) (w : World) (h : BuiT b l w) (hl : l.length + s.length ≤ 140737488355328) :
    Calls Tryd.prog 31 #[.pointer (some ⟨b, 0, none⟩), .string ⟨s.toArray⟩] w fun e w' => (∃ v, e = .returned v) ∧ BuiT b (l ++ s) w' ∧ Beside b w w' := by
  refine (Any.Builder_WriteString_k write_lays text_extra b b (Lib.byteCells l) ⟨s.toArray⟩ w h.1 (by simpa [Lib.byteCells, ByteArray.size] using hl) h.2).mono ?_
  rintro e w' ⟨rfl, h1, h2, h3⟩
  refine ⟨⟨_, rfl⟩, ⟨.inr ?_, Nat.le_trans h.2 h2.size⟩, h2, h3⟩
  have e1 : Lib.byteCells (l ++ s) = Lib.byteCells l ++ Lib.strCells ⟨s.toArray⟩ := by simp [Lib.byteCells, Lib.strCells]
  rw [e1]
  exact h1
theorem string_is (b : Nat) (l : Txt) (w : World) (h : BuiT b l w) :
    Calls Tryd.prog 33 #[.pointer (some ⟨b, 0, none⟩)] w fun e w' => e = .returned (.string ⟨l.toArray⟩) ∧ Beside b w w' := by
  refine (Any.Builder_String_any_k string_lays text_extra b b l w h.1 h.2).mono ?_
  rintro e w' ⟨rfl, _, h2, h3⟩
  exact ⟨rfl, h2, h3⟩
/-- The table of the powers of ten, as it is laid. -/
def PowAt (w : World) : Prop := Lib.TabIs Tryd.prog w "internal/strconv.uint64pow10" .u64 Lib.pow10Tab
theorem PowAt.keep {w w' : World} (h : PowAt w) (hk : Keeps [] w w') : PowAt w' := by
  unfold PowAt Lib.TabIs World.var? at h ⊢
  cases hg : Tryd.prog.globalNamed "internal/strconv.uint64pow10" with
  | none => rw [hg] at h; cases h
  | some g =>
    rw [hg] at h
    simp only [Option.bind_some] at h ⊢
    have hlt : g < w.heap.size := by
      rcases Nat.lt_or_ge g w.heap.size with h1 | h1
      · exact h1
      · rw [Array.getElem?_eq_none h1] at h
        cases h
    rw [hk.block g hlt (by simp)]
    exact h
theorem itoa_is (n : Nat) (w : World) (hn : n ≤ 9223372036854775807) (h : PowAt w) :
    Calls Tryd.prog 32 #[.int .i64 (n : Int)] w fun e w' => e = .returned (.string ⟨(Lib.decDigits n).toArray⟩) ∧ Keeps [] w w' := by
  refine (Any.strconv_Itoa itoa_lays (n : Int) (by omega) (by omega) w h).mono ?_
  rintro e w' ⟨rfl, k, os, rfl⟩
  exact ⟨by rw [Lib.itoa_nonneg], Keeps.of_below (Lib.below_grow _ w (Nat.le_refl _) k os)⟩
theorem digits_len (n : Nat) (hn : n ≤ 9223372036854775807) : (Lib.decDigits n).length ≤ 21 := by
  have := Lib.itoa_length_le (n : Int) (by omega) (by omega)
  rwa [Lib.itoa_nonneg] at this
theorem ownF_keep {w w' : World} {base : Nat} {e : TypeId} {k : Nat} {v : Value} {n : Nat} {xs : List Value} (h : w.ownsRowF base e k v n xs) (hk : Keeps [] w w') : w'.ownsRowF base e k v n xs := by
  refine ⟨h.1, ?_⟩
  rcases h.2 with h2 | ⟨g, cap, cur, fz, hv, hb, hh, r⟩
  · exact .inl h2
  · exact .inr ⟨g, cap, cur, fz, hv, hb, (hk.block g (lt_of_heap hh) (by simp)).trans hh, r⟩
/-- A builder stays as it is where only new blocks come. -/
theorem BuiT.keep {b : Nat} {l : Txt} {w w' : World} (h : BuiT b l w) (hk : Keeps [] w w') : BuiT b l w' := by
  obtain ⟨h1, h2⟩ := h
  have hb : ∀ p, Lib.BuilderAtF 67 5 b b p (Lib.byteCells l) w → Lib.BuilderAtF 67 5 b b p (Lib.byteCells l) w' := fun p hp => by
    obtain ⟨e1, v, e2, e3, e4⟩ := hp
    exact ⟨e1, v, blk_keep e2 hk (by simp), ownF_keep e3 hk, e4⟩
  refine ⟨?_, Nat.le_trans h2 hk.size⟩
  rcases h1 with h1 | h1
  · exact .inl (hb _ h1)
  · exact .inr (hb _ h1)
theorem BuiT.made (w : World) : BuiT w.heap.size [] (w.alloc (.cells #[.pointer none, .slice none 0 0] 67)) := by
  refine ⟨.inl ⟨Nat.le_refl _, .slice none 0 0, heap_new8 w _, ⟨rfl, .inl ⟨rfl, rfl⟩⟩, by simp [Value.ownBlock]⟩, by simp⟩
end Go.Proofs.YtfjlcfbomlfpfaaDoor
/- entry: Text; walked. -/
namespace Go.Proofs.YtfjlcfbomlfpfaaDoor
open Go.RowKit Go.Shelf
set_option linter.unusedVariables false
set_option linter.unusedSimpArgs false
set_option maxRecDepth 100000

def lineN (a : Att) : Txt := a.1 ++ [32] ++ Lib.decDigits a.2.length ++ [10]
def lineV (v : Txt) : Txt := Lib.decDigits v.length ++ [32] ++ v ++ [10]
def attT (a : Att) : Txt := lineN a ++ a.2.flatMap lineV
def textE (e : List Att) : Txt := e.flatMap attT
def textP (e : List Att) : Txt × Nat := if entOk e = true then (textE e, 0) else ([], 2)
theorem flat_take {α : Type} {l : List α} {f : α → Txt} {j : Nat} {a : α} (h : l[j]? = some a) : (l.take (j + 1)).flatMap f = (l.take j).flatMap f ++ f a := by
  rw [List.take_add_one, h, List.flatMap_append]
  simp
theorem flat_len {α : Type} {f : α → Txt} {m : Nat} : ∀ {l : List α}, (∀ a ∈ l, (f a).length ≤ m) → (l.flatMap f).length ≤ l.length * m
  | [], _ => by simp
  | a :: r, h => by
    have h1 := flat_len (f := f) (m := m) (l := r) (fun x hx => h x (List.mem_cons_of_mem _ hx))
    have h2 := h a (by simp)
    rw [List.flatMap_cons, List.length_append, List.length_cons, Nat.add_mul, Nat.one_mul]
    omega
theorem lineV_len {v : Txt} (h : v.length ≤ 1000000) : (lineV v).length ≤ 1000023 := by
  have := digits_len v.length (by omega)
  unfold lineV
  simp only [List.length_append, List.length_cons, List.length_nil]
  omega
theorem lineN_len {a : Att} (h : a.1.length ≤ 1000000) (h2 : a.2.length ≤ 1000) : (lineN a).length ≤ 1000023 := by
  have := digits_len a.2.length (by omega)
  unfold lineN
  simp only [List.length_append, List.length_cons, List.length_nil]
  omega
theorem cat_is (a b : Txt) (h : a.length + b.length ≤ 9223372036854775807) (W : World) : (Op.stringOp .add ⟨a.toArray⟩ ⟨b.toArray⟩).run Tryd.prog W = .ok (.string ⟨(a ++ b).toArray⟩) W := by
  have h1 := run_string_add_sum (P := Tryd.prog) W ⟨a.toArray⟩ ⟨b.toArray⟩ (by
    have e1 : (⟨a.toArray⟩ : ByteArray).size = a.length := rfl
    have e2 : (⟨b.toArray⟩ : ByteArray).size = b.length := rfl
    rw [e1, e2]
    exact h)
  rw [h1]
  congr 2
end Go.Proofs.YtfjlcfbomlfpfaaDoor
