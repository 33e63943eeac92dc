/- Rows of calls that came in (Act), and few. -/
import Derived.Test.YtadpomclnhemoaaD18
import Derived.Test.YtadpomclnhemoaaD19
namespace Go.Proofs.Ytadpomclnhemoaa
open Go.RowKit Go.ChangeShapes Go.WideShapes Go.Deep
set_option linter.unusedVariables false

/-- A call, as data; v is the slice value of its bytes. -/
structure ActD where
  kind : Int
  at_ : Int
  n : Int
  A : Option Addr
  c : Nat
  bs : List UInt8
  keep : Int
  torn : Int

instance : Inhabited ActD := ⟨⟨0, 0, 0, none, 0, [], 0, 0⟩⟩

def i64 (x : Int) : Prop := -9223372036854775808 ≤ x ∧ x ≤ 9223372036854775807

/-- What is known of one call of a row that came in. -/
structure ActOk (w : World) (b o : Nat) (x : ActD) : Prop where
  c0 : w.cell? ⟨b, o, none⟩ = some (.int .i64 x.kind)
  c1 : w.cell? ⟨b, o + 1, none⟩ = some (.int .i64 x.at_)
  c2 : w.cell? ⟨b, o + 2, none⟩ = some (.int .i64 x.n)
  c3 : w.cell? ⟨b, o + 3, none⟩ = some (.slice x.A x.bs.length x.c)
  c4 : w.cell? ⟨b, o + 4, none⟩ = some (.int .i64 x.keep)
  c5 : w.cell? ⟨b, o + 5, none⟩ = some (.int .i64 x.torn)
  bytes : BytesAt w (.slice x.A x.bs.length x.c) x.bs
  len : x.bs.length ≤ 9223372036854775807
  i0 : i64 x.kind
  i1 : i64 x.at_
  i2 : i64 x.n
  i4 : i64 x.keep
  i5 : i64 x.torn

structure ActsAt (w : World) (A : Option Addr) (len : Nat) (l : List ActD) : Prop where
  len : l.length = len
  at_ : ∀ i x, l[i]? = some x → ∃ b o, A = some ⟨b, o, none⟩ ∧ ActOk w b (o + i * 6) x

theorem ActOk.keep {w w' : World} {b o : Nat} {x : ActD} (h : ActOk w b o x) (hk : Keeps [] w w') : ActOk w' b o x := by
  have hc : ∀ {p : Addr} {v : Value}, w.cell? p = some v → w'.cell? p = some v := fun hp => (hk.cell (lt_of_cell hp) (by simp)).trans hp
  exact ⟨hc h.c0, hc h.c1, hc h.c2, hc h.c3, hc h.c4, hc h.c5, h.bytes.grow hk, h.len, h.i0, h.i1, h.i2, h.i4, h.i5⟩

theorem ActsAt.keep {w w' : World} {A : Option Addr} {len : Nat} {l : List ActD} (h : ActsAt w A len l) (hk : Keeps [] w w') : ActsAt w' A len l :=
  ⟨h.len, fun i x hx => by obtain ⟨b, o, hA, ho⟩ := h.at_ i x hx; exact ⟨b, o, hA, ho.keep hk⟩⟩

def fewB (size : Int) (l : List ActD) : Bool := !(decide (300 < size) || decide (40 < l.length)) && l.all fun x => decide (x.bs.length ≤ 100)

theorem few_out (size : Int) (A : Option Addr) (len c : Nat) (w : World) (hl : len ≤ 9223372036854775807) (h : 300 < size ∨ 40 < len) :
    Calls Try.prog 9 #[.int .i64 size, .slice A len c] w fun e w' => e = .returned (.bool false) ∧ w = w' := by
  by_cases h1 : 300 < size
  · clear h
    go_enter Try.func9, Try.ntmps9
    go_wp2
    go_ret
    exact ⟨rfl, rfl⟩
  · have h2 : (40 : Int) < len := by omega
    clear h
    go_enter Try.func9, Try.ntmps9
    go_wp2
    go_ret
    exact ⟨rfl, rfl⟩

theorem few_in (size : Int) (A : Option Addr) (len c : Nat) (l : List ActD) (w : World) (h1 : ¬ 300 < size) (h2 : ¬ 40 < len) (hl : ActsAt w A len l) :
    Calls Try.prog 9 #[.int .i64 size, .slice A len c] w fun e w' => e = .returned (.bool (l.all fun x => decide (x.bs.length ≤ 100))) ∧ w = w' := by
  have h2' : ¬ (40 : Int) < len := by omega
  have HL := Lib.hid hl
  clear hl
  go_enter Try.func9, Try.ntmps9
  go_wp2
  go_loop [5] (fun i => ∃ j : Nat, i = .int .i64 (j : Int) ∧ j ≤ len ∧ Hid (((l.take j).all fun x => decide (x.bs.length ≤ 100)) = true)) (fun i => len - (intOf i).toNat)
  case atStart => exact ⟨0, rfl, Nat.zero_le _, by show ((l.take 0).all _) = true; simp⟩
  case round =>
    obtain ⟨j, rfl, hj, HJ⟩ := hrel
    by_cases hlt : j < len
    · have hll := HL.out.len
      have hx : l[j]? = some (l[j]'(by omega)) := List.getElem?_eq_getElem (by omega)
      obtain ⟨b, o, hA, ho⟩ := HL.out.at_ j _ hx
      subst hA
      have hc3 := ho.c3
      have hbl := ho.len
      have htk : (l.take (j + 1)) = l.take j ++ [l[j]'(by omega)] := List.take_succ_eq_append_getElem (by omega)
      generalize l[j]'(by omega) = x at *
      by_cases h100 : x.bs.length ≤ 100
      · have HN : Hid (((l.take (j + 1)).all fun x => decide (x.bs.length ≤ 100)) = true) := by
          show _ = _
          rw [htk, List.all_append, HJ.out]
          simp [h100]
        clear hx htk ho hll
        go_wp2
        go_round
        case rel => exact ⟨j + 1, by go_num, by omega, HN⟩
        case measure => simp [intOf]; omega
      · have HF : Hid ((l.all fun x => decide (x.bs.length ≤ 100)) = false) := by
          show _ = _
          rw [List.all_eq_false]
          exact ⟨x, List.mem_of_getElem? hx, by simpa using h100⟩
        clear hx htk ho hll
        go_wp2
        go_ret
        exact ⟨by rw [HF.out]; rfl, rfl⟩
    · go_wp2
      go_ret
      have := HJ.out
      rw [List.take_of_length_le (by have := HL.out.len; omega)] at this
      exact ⟨by rw [this]; rfl, rfl⟩

end Go.Proofs.Ytadpomclnhemoaa
