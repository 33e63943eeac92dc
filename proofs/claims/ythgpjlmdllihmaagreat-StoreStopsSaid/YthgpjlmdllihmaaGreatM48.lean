/- Texts of one proof, laid together: U63 U64. -/
import Derived.Test.YthgpjlmdllihmaaGreatM45
import Derived.Test.YthgpjlmdllihmaaGreatM38
/- For StoreStops: changes done twice; what a Put that may have stopped leaves, behind any crash. -/
namespace Go.Proofs.YthgpjlmdllihmaaGreat
open Go.RowKit Go.Shelf Go.Maps
set_option linter.unusedVariables false
set_option linter.unusedSimpArgs false
set_option maxRecDepth 100000

theorem tornDk_len {w : World} {k : Dk} (h : DiskAt w k) (keep torn : Int) : (tornOf k.dat keep torn).length = k.S.length := by
  have hf : ∀ x ∈ k.dat.W, x.1 + x.2.length ≤ k.S.length := wdat_fit h
  have hL : k.dat.L.length = k.S.length := h.len
  have hl : ∀ K, (layAll k.dat.L (k.dat.W.take K)).length = k.S.length := fun K => length_layAll hL fun x hx => hf x (List.mem_of_mem_take hx)
  unfold tornOf
  split
  · exact hl _
  · rename_i x hx
    have hm := hf x (List.mem_of_getElem? hx)
    rw [length_laid, hl]
    rw [hl]; simp; omega

theorem in_tins {x y : List UInt8 × List UInt8} : ∀ {T : Tab}, y ∈ tins x T ↔ y = x ∨ y ∈ T
  | [] => by simp [tins]
  | z :: r => by
    unfold tins
    split
    · simp
    · rw [List.mem_cons, in_tins, List.mem_cons]
      constructor
      · rintro (h | h | h)
        · exact .inr (.inl h)
        · exact .inl h
        · exact .inr (.inr h)
      · rintro (h | h | h)
        · exact .inr (.inl h)
        · exact .inl h
        · exact .inr (.inr h)
theorem in_tdel {p : List UInt8 × List UInt8} {T : Tab} {k : List UInt8} : p ∈ tdel T k ↔ p ∈ T ∧ p.1 ≠ k := by
  unfold tdel
  rw [List.mem_filter]
  simp
theorem in_chg {p : List UInt8 × List UInt8} {T : Tab} {x : Chg} : p ∈ chgT T x ↔ (x.g = false ∧ p = (x.k, x.v)) ∨ (p ∈ T ∧ p.1 ≠ x.k) := by
  unfold chgT
  cases hg : x.g
  · simp only [Bool.false_eq_true, if_false]
    unfold tput
    rw [in_tins, in_tdel]
    simp
  · simp only [if_true]
    rw [in_tdel]
    simp
/-- What the last change of a key sets. -/
def lastSet : List Chg → List UInt8 × List UInt8 → Prop
  | [], _ => False
  | x :: r, p => lastSet r p ∨ ((x.g = false ∧ p = (x.k, x.v)) ∧ ∀ y ∈ r, p.1 ≠ y.k)
theorem in_behind {p : List UInt8 × List UInt8} : ∀ {l : List Chg} {T : Tab}, p ∈ behindT T l ↔ lastSet l p ∨ (p ∈ T ∧ ∀ y ∈ l, p.1 ≠ y.k)
  | [], T => by simp [behindT, lastSet]
  | x :: r, T => by
    show p ∈ behindT (chgT T x) r ↔ _
    rw [in_behind, in_chg, show lastSet (x :: r) p = (lastSet r p ∨ ((x.g = false ∧ p = (x.k, x.v)) ∧ ∀ y ∈ r, p.1 ≠ y.k)) from rfl]
    constructor
    · rintro (h | ⟨h | ⟨h1, h2⟩, h3⟩)
      · exact .inl (.inl h)
      · exact .inl (.inr ⟨h, h3⟩)
      · exact .inr ⟨h1, fun y hy => by
          rcases List.mem_cons.1 hy with hy | hy
          · rw [hy]; exact h2
          · exact h3 y hy⟩
    · rintro ((h | ⟨h, h3⟩) | ⟨h1, h2⟩)
      · exact .inl h
      · exact .inr ⟨.inl h, h3⟩
      · exact .inr ⟨.inr ⟨h1, h2 x (List.mem_cons_self ..)⟩, fun y hy => h2 y (List.mem_cons_of_mem _ hy)⟩
theorem rising_ext : ∀ {T U : Tab}, Rising T → Rising U → (∀ p, p ∈ T ↔ p ∈ U) → T = U
  | [], [], _, _, _ => rfl
  | [], y :: r, _, _, h => by have := (h y).2 (List.mem_cons_self ..); simp at this
  | x :: r, [], _, _, h => by have := (h x).1 (List.mem_cons_self ..); simp at this
  | x :: r, y :: q, hT, hU, h => by
    obtain ⟨a1, a2⟩ := List.pairwise_cons.1 hT
    obtain ⟨b1, b2⟩ := List.pairwise_cons.1 hU
    have hxy : x = y := by
      rcases List.mem_cons.1 ((h x).1 (List.mem_cons_self ..)) with h1 | h1
      · exact h1
      · rcases List.mem_cons.1 ((h y).2 (List.mem_cons_self ..)) with h2 | h2
        · exact h2.symm
        · have e1 := b1 x h1
          have e2 := a1 y h2
          rw [before_asymm e1] at e2
          cases e2
    subst hxy
    congr 1
    refine rising_ext a2 b2 fun p => ⟨fun hp => ?_, fun hp => ?_⟩
    · rcases List.mem_cons.1 ((h p).1 (List.mem_cons_of_mem _ hp)) with h1 | h1
      · have := a1 p hp
        rw [h1, before_irrefl] at this
        cases this
      · exact h1
    · rcases List.mem_cons.1 ((h p).2 (List.mem_cons_of_mem _ hp)) with h1 | h1
      · have := b1 p hp
        rw [h1, before_irrefl] at this
        cases this
      · exact h1
theorem behindT_twice {T : Tab} {l : List Chg} (hT : Rising T) : behindT (behindT T l) l = behindT T l :=
  rising_ext (rising_behind (rising_behind hT)) (rising_behind hT) fun p => by
    rw [in_behind, in_behind]
    constructor
    · rintro (h | ⟨h | h, h2⟩)
      · exact .inl h
      · exact .inl h
      · exact .inr h
    · rintro (h | h)
      · exact .inl h
      · exact .inr ⟨.inr h, h.2⟩
theorem putN_twice {T : Tab} {l : List Chg} {half : Nat} (hT : Rising T) (h : putN T l false half = 0) : putN (behindT T l) l false half = 0 := by
  unfold putN at h ⊢
  rw [behindT_twice hT]
  exact h

/-- What a Put leaves that may have stopped, behind any crash. -/
theorem Put.stops {w w' : World} {s s' : St} {k k' : Dk} {T T' : Tab} {l : List Chg} {n : Int} (h : Put w s k T l n s' k' T' w') (hN : putN T l false (k.S.length / 2) = 0) (hf : k.lim = k.S.length) (keep torn : Int) :
    (n = 0 ∧ T' = behindT T l ∨ n = 111 ∧ T' = T) ∧ (k'.dat.crash keep torn).S.length = k.S.length ∧ ∃ at_ turn T2, (T2 = T ∨ T2 = behindT T l) ∧ (n = 0 → T2 = behindT T l) ∧ Calm (k'.dat.crash keep torn) at_ turn T2 := by
  have hlen : (k'.dat.crash keep torn).S.length = k.S.length := (tornDk_len h.st.disk keep torn).trans h.len
  rcases h.what with ⟨a1, a2, a3, _⟩ | ⟨a1, a2, a3, a4, a5⟩ | ⟨a1, a2, a3, a4, a5, a6⟩
  · rcases a3 with ⟨a3, _⟩ | ⟨_, a3⟩
    · exact absurd a3 (h.full hf)
    · exact absurd (a3.trans hN) a1
  · refine ⟨.inl ⟨a2, a5⟩, hlen, s'.at_, s'.turn, T', .inr a5, fun _ => a5, a4.crash keep torn⟩
  · refine ⟨.inr ⟨a2, a4⟩, hlen, ?_⟩
    have hl : (k'.dat.crash keep torn).lim ≤ (k'.dat.crash keep torn).S.length := by
      rw [hlen]
      show k'.lim ≤ _
      rw [h.lim, hf]
      exact Nat.le_refl _
    rcases a5 keep torn with hh | hh
    · exact ⟨_, _, T, .inl rfl, fun h0 => by omega, rfl, rfl, hh, hl⟩
    · exact ⟨_, _, behindT T l, .inr rfl, fun h0 => rfl, rfl, rfl, hh, hl⟩

/-- An armed store. -/
theorem StM.arm {w w' : World} {s : St} {k : Dk} {T : Tab} {left : Int} (h : StM w s k T) (hd : DiskAt w' (k.nums k.lim left k.done)) (hk : Keeps [k.p] w w') : StM w' s (k.nums k.lim left k.done) T := by
  have hp : k.p ∈ k.all := fp_sub (by simp [Dk.fp])
  refine ⟨h.st.keep hk (fun hm => ?_), h.dp, hd, h.tab.keep hk (fun b hb hm => ?_), h.np, h.nm, h.good⟩
  · rw [List.mem_singleton] at hm
    exact h.np (hm ▸ hp)
  · rw [List.mem_singleton] at hm
    exact (h.nm b hb).1 (hm ▸ hp)

end Go.Proofs.YthgpjlmdllihmaaGreat
/- StoreStops, where the argument is not too great to be laid together. -/
namespace Go.Proofs.YthgpjlmdllihmaaGreat
open Go.RowKit Go.Shelf Go.Maps
set_option linter.unusedVariables false
set_option linter.unusedSimpArgs false
set_option maxRecDepth 100000

/-- An append in a region whose order is open, behind a guard that holds. -/
theorem step_append_w {P : Program} {w : World} {ops : Array Oper} {o : Oper} {a : Act} {K : Act → World → Prop} {Q : Exit → Act → World → Prop} {E : Prop} (hw : Region.wanted o (yielded ops a.tmps) = true) (s x : Operand) (t : TypeId)
    (ho : o.op = .call { callee := .builtin .append, args := #[s, x], argTypes := #[t, t] })
    (base : Nat) (e : TypeId) (i : TypeInfo) (z : Value) (size bytes : Nat) (ht : P.underlying t = some (.slice e)) (hi : P.info? e = some i) (hz : i.zero = some z)
    (hsize : i.size = size) (hby : i.bytes = bytes) (hzs : z.cells.size = size) (hsz : 0 < size)
    (v : Value) (n : Nat) (xs : List Value) (hs : a.eval s = v) (hown : w.ownsRow base e size v n xs)
    (A : Option Addr) (m c : Nat) (news : List Value) (hx : a.eval x = .slice A m c) (hl : news.length = m * size) (hnews : Src w A m news) (h1 : ∀ u ∈ news, u.oneCell' = true)
    (h63 : n + m ≤ maxLen) (hbytes : (n + m) * bytes ≤ 140737488355328) (hbase : base ≤ w.heap.size)
    (h : ∀ v' w', w'.ownsRow base e size v' (n + m) (xs ++ news) → w.grownBy w' v.ownBlock → (v'.ownBlock = v.ownBlock ∨ v'.ownBlock = some w.heap.size) → K (a.put o.dst v') w') :
    if Region.wanted o (yielded ops a.tmps) = true then Oper.wp P o a w K Q else E := by
  rw [if_pos hw]
  exact wp_append_opt s x t ho base e i z size bytes ht hi hz hsize hby hzs hsz v n xs hs hown A m c news hx hl hnews h1 h63 hbytes hbase h

set_option maxHeartbeats 8000000 in
theorem stops_no (size : Int) (A : Option Addr) (n ca : Nat) (x : Act4) (w : World) (h1 : I64 size) (hm : n ≤ 9223372036854775807) (hq : size < 256 ∨ 10000 < size ∨ 8 < n) :
    Calls Tryz.prog 3 #[.int .i64 size, .slice A n ca, .agg #[.int .i64 x.kind, .int .i64 x.n, .slice x.A x.l.length x.c, .int .i64 x.keep, .int .i64 x.torn]] w fun e w' => e = .returned (.bool true) ∧ Keeps [] w w' := by
  have HK := Lib.hid (fun X => known4_any X)
  have HW : Hid (Keeps [] w (w.alloc (.cells #[.int .i64 x.kind, .int .i64 x.n, .slice x.A x.l.length x.c, .int .i64 x.keep, .int .i64 x.torn] 27)).drew) := ((Keeps.refl [] w).alloc _).drew
  generalize hW0 : w.alloc (.cells #[.int .i64 x.kind, .int .i64 x.n, .slice x.A x.l.length x.c, .int .i64 x.keep, .int .i64 x.torn] 27) = W0 at HW
  by_cases q1 : size < 256
  · have q1d : decide (size < 256) = true := decide_eq_true q1
    go_enter Tryz.func3, Tryz.ntmps3
    go_wp2_with fail
    refine region_Y (by kernel_rfl) (by kernel_rfl) (fun Z hon hoff hend => ?_)
    refine hon _ _ _ ?A100 (by kernel_rfl) ?B100 ?C100
    case B100 =>
      intro K hK
      go_simp
      exact hK
    refine hon _ _ _ ?A101 (by kernel_rfl) ?B101 ?C101
    case B101 =>
      intro K hK
      go_simp
      exact hK
    refine hon _ _ _ ?A102 (by kernel_rfl) ?B102 ?C102
    case B102 =>
      intro K hK
      go_simp
      exact hK
    refine hoff _ _ _ (by kernel_rfl) ?_
    refine hoff _ _ _ (by kernel_rfl) ?_
    refine hon _ _ _ ?A105 (by kernel_rfl) ?B105 ?C105
    case B105 =>
      intro K hK
      go_simp
      exact hK
    refine hon _ _ _ ?A106 (by kernel_rfl) ?B106 ?C106
    case B106 =>
      intro K hK
      go_simp
      exact hK
    refine hoff _ _ _ (by kernel_rfl) ?_
    refine hoff _ _ _ (by kernel_rfl) ?_
    refine hoff _ _ _ (by kernel_rfl) ?_
    refine hon _ _ _ ?A110 (by kernel_rfl) ?B110 ?C110
    case B110 =>
      intro K hK
      go_simp
      exact hK
    refine hon _ _ _ ?A111 (by kernel_rfl) ?B111 ?C111
    case B111 =>
      intro K hK
      go_simp
      exact hK
    refine hoff _ _ _ (by kernel_rfl) ?_
    refine hoff _ _ _ (by kernel_rfl) ?_
    refine hoff _ _ _ (by kernel_rfl) ?_
    refine hoff _ _ _ (by kernel_rfl) ?_
    refine hoff _ _ _ (by kernel_rfl) ?_
    refine hoff _ _ _ (by kernel_rfl) ?_
    refine hoff _ _ _ (by kernel_rfl) ?_
    refine hon _ _ _ ?A119 (by kernel_rfl) ?B119 ?C119
    case B119 =>
      intro K hK
      go_simp
      exact hK
    refine hend _ ?_
    clear hon hoff hend Z
    change Exit.then _ _ _ _ W0.drew
    generalize W0.drew = X at *
    go_wp2_with fail
    refine (HK.out _).mono ?_
    rintro e w1 ⟨rfl, hk⟩
    have HK1 := Lib.hid (HW.out.trans' hk)
    clear hk
    go_wp2_with fail
    go_ret
    exact ⟨rfl, HK1.out⟩
  have q1d : decide (size < 256) = false := decide_eq_false q1
  by_cases q2 : 10000 < size
  · have q2d : decide (10000 < size) = true := decide_eq_true q2
    go_enter Tryz.func3, Tryz.ntmps3
    go_wp2_with fail
    refine region_Y (by kernel_rfl) (by kernel_rfl) (fun Z hon hoff hend => ?_)
    refine hon _ _ _ ?A200 (by kernel_rfl) ?B200 ?C200
    case B200 =>
      intro K hK
      go_simp
      exact hK
    refine hon _ _ _ ?A201 (by kernel_rfl) ?B201 ?C201
    case B201 =>
      intro K hK
      go_simp
      exact hK
    refine hon _ _ _ ?A202 (by kernel_rfl) ?B202 ?C202
    case B202 =>
      intro K hK
      go_simp
      exact hK
    refine hon _ _ _ ?A203 (by kernel_rfl) ?B203 ?C203
    case B203 =>
      intro K hK
      go_simp
      exact hK
    refine hon _ _ _ ?A204 (by kernel_rfl) ?B204 ?C204
    case B204 =>
      intro K hK
      go_simp
      exact hK
    refine hon _ _ _ ?A205 (by kernel_rfl) ?B205 ?C205
    case B205 =>
      intro K hK
      go_simp
      exact hK
    refine hon _ _ _ ?A206 (by kernel_rfl) ?B206 ?C206
    case B206 =>
      intro K hK
      go_simp
      exact hK
    refine hoff _ _ _ (by kernel_rfl) ?_
    refine hoff _ _ _ (by kernel_rfl) ?_
    refine hoff _ _ _ (by kernel_rfl) ?_
    refine hon _ _ _ ?A210 (by kernel_rfl) ?B210 ?C210
    case B210 =>
      intro K hK
      go_simp
      exact hK
    refine hon _ _ _ ?A211 (by kernel_rfl) ?B211 ?C211
    case B211 =>
      intro K hK
      go_simp
      exact hK
    refine hoff _ _ _ (by kernel_rfl) ?_
    refine hoff _ _ _ (by kernel_rfl) ?_
    refine hoff _ _ _ (by kernel_rfl) ?_
    refine hoff _ _ _ (by kernel_rfl) ?_
    refine hoff _ _ _ (by kernel_rfl) ?_
    refine hoff _ _ _ (by kernel_rfl) ?_
    refine hoff _ _ _ (by kernel_rfl) ?_
    refine hon _ _ _ ?A219 (by kernel_rfl) ?B219 ?C219
    case B219 =>
      intro K hK
      go_simp
      exact hK
    refine hend _ ?_
    clear hon hoff hend Z
    change Exit.then _ _ _ _ W0.drew
    generalize W0.drew = X at *
    go_wp2_with fail
    refine (HK.out _).mono ?_
    rintro e w1 ⟨rfl, hk⟩
    have HK1 := Lib.hid (HW.out.trans' hk)
    clear hk
    go_wp2_with fail
    go_ret
    exact ⟨rfl, HK1.out⟩
  · have q2d : decide (10000 < size) = false := decide_eq_false q2
    have q3 : (8 : Int) < (n : Int) := by omega
    have q3d : decide ((8 : Int) < (n : Int)) = true := decide_eq_true q3
    go_enter Tryz.func3, Tryz.ntmps3
    go_wp2_with fail
    refine region_Y (by kernel_rfl) (by kernel_rfl) (fun Z hon hoff hend => ?_)
    refine hon _ _ _ ?A300 (by kernel_rfl) ?B300 ?C300
    case B300 =>
      intro K hK
      go_simp
      exact hK
    refine hon _ _ _ ?A301 (by kernel_rfl) ?B301 ?C301
    case B301 =>
      intro K hK
      go_simp
      exact hK
    refine hon _ _ _ ?A302 (by kernel_rfl) ?B302 ?C302
    case B302 =>
      intro K hK
      go_simp
      exact hK
    refine hon _ _ _ ?A303 (by kernel_rfl) ?B303 ?C303
    case B303 =>
      intro K hK
      go_simp
      exact hK
    refine hon _ _ _ ?A304 (by kernel_rfl) ?B304 ?C304
    case B304 =>
      intro K hK
      go_simp
      exact hK
    refine hon _ _ _ ?A305 (by kernel_rfl) ?B305 ?C305
    case B305 =>
      intro K hK
      go_simp
      exact hK
    refine hon _ _ _ ?A306 (by kernel_rfl) ?B306 ?C306
    case B306 =>
      intro K hK
      go_simp
      exact hK
    refine hon _ _ _ ?A307 (by kernel_rfl) ?B307 ?C307
    case B307 =>
      intro K hK
      go_simp
      exact hK
    refine hon _ _ _ ?A308 (by kernel_rfl) ?B308 ?C308
    case B308 =>
      intro K hK
      go_simp
      exact hK
    refine hon _ _ _ ?A309 (by kernel_rfl) ?B309 ?C309
    case B309 =>
      intro K hK
      go_simp
      exact hK
    refine hon _ _ _ ?A310 (by kernel_rfl) ?B310 ?C310
    case B310 =>
      intro K hK
      go_simp
      exact hK
    refine hon _ _ _ ?A311 (by kernel_rfl) ?B311 ?C311
    case B311 =>
      intro K hK
      go_simp
      exact hK
    refine hoff _ _ _ (by kernel_rfl) ?_
    refine hoff _ _ _ (by kernel_rfl) ?_
    refine hoff _ _ _ (by kernel_rfl) ?_
    refine hoff _ _ _ (by kernel_rfl) ?_
    refine hoff _ _ _ (by kernel_rfl) ?_
    refine hoff _ _ _ (by kernel_rfl) ?_
    refine hoff _ _ _ (by kernel_rfl) ?_
    refine hon _ _ _ ?A319 (by kernel_rfl) ?B319 ?C319
    case B319 =>
      intro K hK
      go_simp
      exact hK
    refine hend _ ?_
    clear hon hoff hend Z
    change Exit.then _ _ _ _ W0.drew
    generalize W0.drew = X at *
    go_wp2_with fail
    refine (HK.out _).mono ?_
    rintro e w1 ⟨rfl, hk⟩
    have HK1 := Lib.hid (HW.out.trans' hk)
    clear hk
    go_wp2_with fail
    go_ret
    exact ⟨rfl, HK1.out⟩

theorem rsame_self (A B : Option Addr) (n m c d : Nat) (T : Tab) (w : World) (hA : PrsAt w A n T) (hB : PrsAt w B m T) (hT : T.length ≤ 9223372036854775807) :
    Calls Tryz.prog 15 #[.slice A n c, .slice B m d] w fun e w' => e = .returned (.bool true) ∧ Keeps [] w w' := by
  have h := rsame_is A B n m c d T T w hA hB (by rw [← hA.len]; exact hT) (by rw [← hB.len]; exact hT)
  rw [decide_eq_true (rfl : T = T)] at h
  exact h

/-- A Put that must last, what it leaves, and what lies beside it. -/
theorem put_again {X : World} {s : St} {k : Dk} {T2 : Tab} (A : Option Addr) (len c : Nat) (l : List Chg) (hs : StM X s k T2) (hc : Calm k.dat s.at_ s.turn T2) (hbr : s.br = false) (hlen : len ≤ 9223372036854775807) (hl : ChgsAt X A len l) (hd : k.done = 0) (hf : k.left = -1) (hm : k.lim = k.S.length) (hN : putN T2 l false (k.S.length / 2) = 0)
    {Z : Option Addr} {m : Nat} {U : Tab} (hZ : PrsAt X Z m U) (hZs : ∀ a, Z = some a → a.block ∉ s.p :: k.fp) :
    Calls Tryz.prog 9 #[.pointer (some ⟨s.p, 0, none⟩), .slice A len c] X fun e w' => e = .returned (.int .i64 0) ∧ PrsAt w' Z m U ∧ Keeps (s.p :: k.fp) X w' ∧ (∀ Y, Keeps [] w' Y → Calls Tryz.prog 10 #[.pointer (some ⟨s.p, 0, none⟩)] Y fun e w'' => ∃ B d, e = .returned (.slice B (behindT T2 l).length d) ∧ PrsAt w'' B (behindT T2 l).length (behindT T2 l) ∧ Keeps [] Y w'') := by
  refine (sput_any A len c l hs hc hbr hlen hl (by omega)).mono ?_
  rintro e w' ⟨n, s', k', T', rfl, hpu⟩
  obtain ⟨h1, _, _, h4⟩ := hpu.free_is hf hm
  rw [hN] at h1
  subst h1
  have hT : T' = behindT T2 l := by
    rcases h4 with ⟨h, _⟩ | ⟨_, _, _, h⟩
    · exact absurd rfl h
    · exact h
  subst hT
  refine ⟨rfl, hZ.keep hpu.keeps hZs, hpu.keeps, fun Y hk => ?_⟩
  have h := all_any (hpu.st.grow hk)
  rw [hpu.p] at h
  refine h.mono ?_
  rintro e w'' ⟨B, d, rfl, hB, _, hk2⟩
  exact ⟨B, d, rfl, hB, hk2⟩

end Go.Proofs.YthgpjlmdllihmaaGreat
