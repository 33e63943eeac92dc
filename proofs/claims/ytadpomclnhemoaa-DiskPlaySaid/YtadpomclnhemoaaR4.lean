/- append from a source that may be nil. -/
import Derived.Test.YtadpomclnhemoaaR3
namespace Go.Proofs.Ytadpomclnhemoaa
open Go.RowKit
set_option linter.unusedVariables false

theorem run_append_nilsrc {P : Program} {w : World} (base : Nat) (t ty e : TypeId) (i : TypeInfo) (size : Nat) (ht : P.underlying t = some (.slice e)) (hi : P.info? e = some i) (v : Value) (n : Nat) (xs : List Value) (hown : w.ownsRow base e size v n xs) (c : Nat) :
    (Builtin.append_ #[t, t] ty #[v, .slice none 0 c]).run P w = .ok v w := by
  rcases hown.2 with ⟨rfl, rfl⟩ | ⟨g, cap, cur, rfl, _, _, hnc, _⟩
  · simp [Builtin.append_, run_underlying ht, sizeOf, typeInfo, hi, Builtin.lenOf, Builtin.firstCells]
  · simp [Builtin.append_, run_underlying ht, sizeOf, typeInfo, hi, Builtin.lenOf, Builtin.firstCells, hnc, storeCells]

/-- Cells that a source slice tells; a nil one tells none. -/
def Src (w : World) (A : Option Addr) (m : Nat) (news : List Value) : Prop := (A = none → m = 0) ∧ ∀ ad, A = some ad → ∀ j u, news[j]? = some u → w.cell? (ad.add j) = some u

theorem Src.of_bytes {w : World} {A : Option Addr} {n c : Nat} {xs : List UInt8} (h : BytesAt w (.slice A n c) xs) : Src w A n (xs.map bv) := by
  refine ⟨fun hA => ?_, fun ad hA => ?_⟩
  · obtain ⟨A', c', he, _, _, h3⟩ := h
    injection he with he1 he2 _
    subst he1
    rcases Nat.eq_zero_or_pos n with h0 | h0
    · exact h0
    · obtain ⟨b, o, hb, _⟩ := h3 (by omega)
      rw [hA] at hb
      cases hb
  · subst hA
    exact h.cells

theorem Src.of_own {w : World} {base : Nat} {e : TypeId} {z : Nat} {A : Option Addr} {n c : Nat} {xs : List Value} (h : w.ownsRow base e z (.slice A n c) n xs) : Src w A n xs := by
  refine ⟨fun hA => ?_, fun ad hA => ?_⟩
  · subst hA
    rcases h.2 with ⟨_, h0⟩ | ⟨g, cap, cur, he, _⟩
    · exact h0
    · injection he with he _ _; cases he
  · subst hA
    rcases h.2 with ⟨he, _⟩ | ⟨g, cap, cur, he, _⟩
    · injection he with he _ _; cases he
    · injection he with he _ _
      injection he with he
      subst he
      exact h.cells (g := g) rfl

theorem Src.grow {w w' : World} {A : Option Addr} {m : Nat} {news : List Value} (h : Src w A m news) (hk : Keeps [] w w') : Src w' A m news :=
  ⟨h.1, fun ad hA j u hu => (hk.cell (lt_of_cell (h.2 ad hA j u hu)) (by simp)).trans (h.2 ad hA j u hu)⟩

theorem run_append_opt {P : Program} {w : World} (base : Nat) (t ty e : TypeId) (i : TypeInfo) (z : Value) (size bytes : Nat) (ht : P.underlying t = some (.slice e)) (hi : P.info? e = some i) (hz : i.zero = some z)
    (hsize : i.size = size) (hby : i.bytes = bytes) (hzs : z.cells.size = size) (hsz : 0 < size)
    (v : Value) (n : Nat) (xs : List Value) (hown : w.ownsRow base e size v n xs)
    (A : Option Addr) (m c : Nat) (news : List Value) (hl : news.length = m * size) (hnews : Src w A m news) (h1 : ∀ u ∈ news, u.oneCell' = true)
    (h63 : n + m ≤ maxLen) (hbytes : (n + m) * bytes ≤ 140737488355328) (hbase : base ≤ w.heap.size) :
    ∃ v' w', (Builtin.append_ #[t, t] ty #[v, .slice A m c]).run P w = .ok v' w' ∧ w'.ownsRow base e size v' (n + m) (xs ++ news) ∧ w.grownBy w' v.ownBlock ∧ (v'.ownBlock = v.ownBlock ∨ v'.ownBlock = some w.heap.size) := by
  rcases A with _ | ad
  · have hm := hnews.1 rfl
    subst hm
    have hn : news = [] := List.eq_nil_of_length_eq_zero (by simpa using hl)
    subst hn
    exact ⟨v, w, run_append_nilsrc base t ty e i size ht hi v n xs hown c, by simpa using hown, ⟨rfl, rfl, rfl, Nat.le_refl _, fun _ _ _ => rfl⟩, .inl rfl⟩
  · obtain ⟨v', w', h2, h3, h4, _, h5⟩ := run_append_own_at (P := P) w base t ty e i z size bytes ht hi hz hsize hby hzs hsz v n xs hown ad m c news hl (hnews.2 ad rfl) h1 h63 hbytes hbase
    exact ⟨v', w', h2, h3, h4, h5⟩

theorem wp_append_opt {P : Program} {w : World} {o : Oper} {a : Act} {K : Act → World → Prop} {Q : Exit → Act → World → Prop} (s x : Operand) (t : TypeId)
    (ho : o.op = .call { callee := .builtin .append, args := #[s, x], argTypes := #[t, t] })
    (base : Nat) (e : TypeId) (i : TypeInfo) (z : Value) (size bytes : Nat) (ht : P.underlying t = some (.slice e)) (hi : P.info? e = some i) (hz : i.zero = some z)
    (hsize : i.size = size) (hby : i.bytes = bytes) (hzs : z.cells.size = size) (hsz : 0 < size)
    (v : Value) (n : Nat) (xs : List Value) (hs : a.eval s = v) (hown : w.ownsRow base e size v n xs)
    (A : Option Addr) (m c : Nat) (news : List Value) (hx : a.eval x = .slice A m c) (hl : news.length = m * size) (hnews : Src w A m news) (h1 : ∀ u ∈ news, u.oneCell' = true)
    (h63 : n + m ≤ maxLen) (hbytes : (n + m) * bytes ≤ 140737488355328) (hbase : base ≤ w.heap.size)
    (h : ∀ v' w', w'.ownsRow base e size v' (n + m) (xs ++ news) → w.grownBy w' v.ownBlock → (v'.ownBlock = v.ownBlock ∨ v'.ownBlock = some w.heap.size) → K (a.put o.dst v') w') : o.wp P a w K Q := by
  obtain ⟨v', w', hr, h2, h3, h4⟩ := run_append_opt (P := P) (w := w) base t o.type e i z size bytes ht hi hz hsize hby hzs hsz v n xs hown A m c news hl hnews h1 h63 hbytes hbase
  unfold Oper.wp execOp
  simp only [ho, resolve, invoke, builtin, Sem.run_bind, Sem.run_pure, Result.andThen_ok, List.map_toArray, List.map_cons, List.map_nil, hs, hx, hr]
  exact h v' w' h2 h3 h4

theorem wpList_append_opt {P : Program} {w : World} {ops : Array Oper} {rest : List Oper} {o : Oper} {a : Act} {Q : Exit → Act → World → Prop} (hgd : o.guard = none) (s x : Operand) (t : TypeId)
    (ho : o.op = .call { callee := .builtin .append, args := #[s, x], argTypes := #[t, t] })
    (base : Nat) (e : TypeId) (i : TypeInfo) (z : Value) (size bytes : Nat) (ht : P.underlying t = some (.slice e)) (hi : P.info? e = some i) (hz : i.zero = some z)
    (hsize : i.size = size) (hby : i.bytes = bytes) (hzs : z.cells.size = size) (hsz : 0 < size)
    (v : Value) (n : Nat) (xs : List Value) (hs : a.eval s = v) (hown : w.ownsRow base e size v n xs)
    (A : Option Addr) (m c : Nat) (news : List Value) (hx : a.eval x = .slice A m c) (hl : news.length = m * size) (hnews : Src w A m news) (h1 : ∀ u ∈ news, u.oneCell' = true)
    (h63 : n + m ≤ maxLen) (hbytes : (n + m) * bytes ≤ 140737488355328) (hbase : base ≤ w.heap.size)
    (h : ∀ v' w', w'.ownsRow base e size v' (n + m) (xs ++ news) → w.grownBy w' v.ownBlock → (v'.ownBlock = v.ownBlock ∨ v'.ownBlock = some w.heap.size) → wpList P ops Q rest (a.put o.dst v') w') : wpList P ops Q (o :: rest) a w :=
  wpList_plain hgd fun _ hK => wp_append_opt s x t ho base e i z size bytes ht hi hz hsize hby hzs hsz v n xs hs hown A m c news hx hl hnews h1 h63 hbytes hbase fun v' w' h2 h3 h4 => hK _ _ (h v' w' h2 h3 h4)

/-- What the document says Write answers. -/
def rErr (L : List UInt8) (lim : Nat) (armed : Int) (a : Int) (n : Nat) : Int :=
  if ¬ (0 ≤ a ∧ a ≤ (L.length : Int) - n) then 4 else if 0 < n ∧ ¬ (a + n ≤ lim) then 110 else if armed = 0 then 111 else 0

theorem refwrite_range (r : Rf) (a : Int) (B : Option Addr) (n c : Nat) (w : World) (ha : i64 a) (hb : r.L.length ≤ 262144) (hn : n ≤ 9223372036854775807) (h : ¬ (0 ≤ a ∧ a ≤ (r.L.length : Int) - n)) :
    Calls Try.prog 29 #[r.v, .int .i64 a, .slice B n c] w fun e w' => e = .returned (.tuple #[r.v, .int .i64 4]) ∧ Below w.heap.size w w' := by
  obtain ⟨h1, h2⟩ := ha
  unfold Rf.v
  by_cases h0 : a < 0
  · clear h
    go_enter Try.func29, Try.ntmps29
    go_wp2
    exact bodyPost_ret (v := .tuple #[.agg #[.slice r.AL r.L.length r.cL, .slice r.AW r.W.length r.cW, .int .i64 r.armed, .int .i64 (r.lim : Int), .int .i64 (r.done : Int)], .int .i64 4]) (by simp [results, Try.results29, go_sem]) rfl ⟨rfl, ((Below.refl _ _).alloc (Nat.le_refl _) _).alloc (by simp) _⟩
  · by_cases h3 : (r.L.length : Int) < a
    · clear h
      go_enter Try.func29, Try.ntmps29
      go_wp2
      exact bodyPost_ret (v := .tuple #[.agg #[.slice r.AL r.L.length r.cL, .slice r.AW r.W.length r.cW, .int .i64 r.armed, .int .i64 (r.lim : Int), .int .i64 (r.done : Int)], .int .i64 4]) (by simp [results, Try.results29, go_sem]) rfl ⟨rfl, ((Below.refl _ _).alloc (Nat.le_refl _) _).alloc (by simp) _⟩
    · have h4 : (r.L.length : Int) - a < n := by omega
      clear h
      go_enter Try.func29, Try.ntmps29
      go_wp2
      exact bodyPost_ret (v := .tuple #[.agg #[.slice r.AL r.L.length r.cL, .slice r.AW r.W.length r.cW, .int .i64 r.armed, .int .i64 (r.lim : Int), .int .i64 (r.done : Int)], .int .i64 4]) (by simp [results, Try.results29, go_sem]) rfl ⟨rfl, ((Below.refl _ _).alloc (Nat.le_refl _) _).alloc (by simp) _⟩

theorem refwrite_full (r : Rf) (off : Nat) (B : Option Addr) (n c : Nat) (w : World) (hb : r.L.length ≤ 262144) (hf : off + n ≤ r.L.length) (hn : 0 < n) (hl : ¬ off + n ≤ r.lim) (hlim : r.lim ≤ 262144) :
    Calls Try.prog 29 #[r.v, .int .i64 (off : Int), .slice B n c] w fun e w' => e = .returned (.tuple #[r.v, .int .i64 110]) ∧ Below w.heap.size w w' := by
  unfold Rf.v
  have a1 : ¬ (off : Int) < 0 := by omega
  have a2 : ¬ (r.L.length : Int) < off := by omega
  have a3 : ¬ (r.L.length : Int) - off < n := by omega
  have a4 : (0 : Int) < n := by omega
  have a5 : (r.lim : Int) < (off : Int) + n := by omega
  go_enter Try.func29, Try.ntmps29
  go_wp2
  exact bodyPost_ret (v := .tuple #[.agg #[.slice r.AL r.L.length r.cL, .slice r.AW r.W.length r.cW, .int .i64 r.armed, .int .i64 (r.lim : Int), .int .i64 (r.done : Int)], .int .i64 110]) (by simp [results, Try.results29, go_sem]) rfl ⟨rfl, ((Below.refl _ _).alloc (Nat.le_refl _) _).alloc (by simp) _⟩

end Go.Proofs.Ytadpomclnhemoaa
