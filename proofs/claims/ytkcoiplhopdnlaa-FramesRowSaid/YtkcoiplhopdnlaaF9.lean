/- frames: End, First, All. -/
import Derived.Test.YtkcoiplhopdnlaaF8
import Derived.Test.YtkcoiplhopdnlaaB1
namespace Go.Proofs.Ytkcoiplhopdnlaa
open Go.RowKit Go.Shelf
set_option linter.unusedVariables false
attribute [local go_sem] Oper.semAt_some

theorem plc_succ {xs : List UInt8} {k : Nat} {r : List UInt8} (h : (recs xs)[k]? = some r) : plc xs (k + 1) = plc xs k + (r.length + 12) ∧ r.length ≤ 32768 := by
  obtain ⟨hk, rfl⟩ := List.getElem?_eq_some_iff.1 h
  exact ⟨(recs_some hk).2.2, recs_short (List.getElem_mem hk)⟩
theorem plc_end (xs : List UInt8) : plc xs (recs xs).length = offs (recs xs) := by unfold plc; rw [List.take_length]

theorem boxed_under {B n : Nat} {t : TypeId} {v : Value} : Under n (fun X => Boxed X B t v) := fun X Y h hb => hb.block B _ h (.inr rfl)

theorem over_set {n b : Nat} (X : World) (v : Value) (h : b < n) : Over n X (X.setCell ⟨b, 0, none⟩ v) :=
  ⟨rfl, rfl, rfl, by show X.heap.size ≤ (X.heap.modify _ _).size; rw [Array.size_modify]; exact Nat.le_refl _, fun k hk _ => Below.heap_setCell X ⟨b, 0, none⟩ v k (by show k ≠ b; omega)⟩
theorem below_set {n b : Nat} (X : World) (v : Value) (h : n ≤ b) : Below n X (X.setCell ⟨b, 0, none⟩ v) := (Below.refl n X).setCell (p := ⟨b, 0, none⟩) h v

set_option maxRecDepth 100000 in
set_option maxHeartbeats 1000000 in
theorem end_is (A : Option Addr) (n c : Nat) (xs : List UInt8) (w : World) (hn : xs.length = n) (hb : BytesAt w (.slice A n c) xs) : Calls Try.prog 9 #[.slice A n c] w fun e w' => e = .returned (.int .i64 (offs (recs xs) : Nat)) ∧ Keeps [] w w' := by
  obtain ⟨hnc, hcm, hxx⟩ := cap_of_bytes hb
  clear hxx
  refine (callsIn_wide (n := 3)).1 ?_
  refine callsIn_of_wp_marks Try.func9 rfl trivial ?_ rfl
  simp only [Try.ntmps9, List.size_toArray, List.length_cons, List.length_nil, Nat.reduceAdd, Nat.reduceSub, Array.replicate_succ, Array.replicate_zero, List.push_toArray, List.append_toArray, List.nil_append, List.cons_append]
  have HB := Lib.hid hb
  have HN := Lib.hid hn
  clear hb hn
  gi_wp2_with (refine ⟨trivial, ?_⟩; gi_at_call 18; refine (callsIn_wide.2 (records_is _ _ _ _)).mono ?_; rintro e w2 ⟨rfl, rfl⟩)
  obtain ⟨W0, hW0⟩ : ∃ W0, (w.alloc (.cells #[.int .i64 0] 3)).alloc (.cells #[.slice A n c] 27) = W0 := ⟨_, rfl⟩
  have hz : W0.heap.size = w.heap.size + 2 := by rw [← hW0]; simp
  have hk0 : Keeps [] w W0 := by rw [← hW0]; exact ((Keeps.refl [] w).alloc _).alloc _
  have bE : Boxed W0 w.heap.size 3 (.int .i64 0) := by rw [← hW0]; exact (Boxed.new w 3 _).alloc _
  have cB : W0.cell? ⟨w.heap.size + 1, 0, none⟩ = some (.slice A n c) := by
    have := World.cell?_alloc_new (w.alloc (.cells #[.int .i64 0] 3)) #[.slice A n c] 27 0
    rw [World.size_alloc] at this
    rw [← hW0, this]
    rfl
  rw [hW0]
  have D0 : RestD (w.heap.size + 1) A n c xs W0 := ⟨cB, HB.out.grow hk0⟩
  clear hW0
  refine range_seqs (n := 3) (gf := 30) (lb := #[.pointer (some ⟨w.heap.size + 1, 0, none⟩)]) rfl (enters_of Try.func30 (by kernel_rfl) rfl) (records_seq (w.heap.size + 1) n c A xs HN.out) (fun k args X h => by obtain ⟨v, r, rfl, _⟩ := h; rfl) (RestD.under _) D0
    (fun k X => Boxed X w.heap.size 3 (.int .i64 (plc xs k : Nat)) ∧ Below w.heap.size w X)
    (fun _ _ _ => False)
    (fun k X Y h hb => ⟨boxed_under X Y h.1 hb, h.2.trans ((hb.mono (by omega)).below h.2.size)⟩)
    (fun _ _ X Y h hb => h)
    ⟨bE, hk0.below (Nat.le_refl _) (by simp)⟩
    (fun args => { tmps := #[.slice A n c, undef, .int .i64 0, .pointer (some ⟨w.heap.size, 0, none⟩), args.getD 0 undef, args.getD 1 undef, .slice A n c, .func (.func 30) #[] #[.pointer (some ⟨w.heap.size + 1, 0, none⟩)], args.getD 0 undef, args.getD 1 undef, undef, undef, undef, undef, undef], defers := [] })
    (fun k args A l o h _ hl => recE_put k args A l o h hl) ?assign ?body ?done ?stop
  case assign =>
    rintro l k args W K ⟨v, r, rfl, hr, hv⟩ hK
    gi_wp2
    exact hK
  case body =>
    rintro lp k args X hk ⟨bX, hbX⟩ hD2 hzX ⟨v, r, rfl, hr, hv⟩
    obtain ⟨A', c', rfl, _, _, _⟩ := hv
    obtain ⟨hp1, hrl⟩ := plc_succ hr
    have hle := plc_le xs (k + 1)
    rw [HN.out] at hle
    have HP := Lib.hid hp1
    have HBX := Lib.hid bX
    have HD2 := Lib.hid hD2
    have HBW := Lib.hid hbX
    have cE := bX.cell
    have fE := bX.frozen
    rw [hp1] at hle
    have HS := fun w => size_ok A' r.length c' w hrl
    have HS2 := Lib.hid HS
    clear bX hp1 HS hD2 hbX
    generalize e1 : plc xs (k + 1) = p1 at *
    generalize plc xs k = p0 at *
    have E1 := Lib.hid e1
    clear e1
    gi_wp2_with (refine ⟨trivial, ?_⟩; gi_at_call 8; refine (CallsIn.inRound lp (callsIn_wide.2 (HS2.out _))).mono ?_; rintro e w3 ⟨rfl, rfl⟩)
    have hbs := below_set (n := w.heap.size) X (.int .i64 ((p0 : Int) + ((r.length : Int) + 12))) (Nat.le_refl _)
    refine ⟨hk, ⟨?_, HBW.out.trans hbs⟩, ⟨?_, HB.out.grow (Keeps.of_below (HBW.out.trans hbs))⟩, over_set X _ (by omega)⟩
    · rw [E1.out, HP.out, show ((p0 + (r.length + 12) : Nat) : Int) = (p0 : Int) + ((r.length : Int) + 12) by omega]
      exact HBX.out.set _
    · exact (World.cell?_setCell_far X ⟨w.heap.size, 0, none⟩ ⟨w.heap.size + 1, 0, none⟩ _ (by show w.heap.size ≠ w.heap.size + 1; omega)).trans HD2.out.1
  case done =>
    rintro X hNM ⟨bX, hbX⟩ hK
    have cE := bX.cell
    rw [plc_end] at cE
    gi_wp2
    refine ⟨by simp, .inl ⟨_, _, rfl, run_takeDeferred hK, ?_⟩⟩
    exact ⟨_, results_tmp rfl _ _ _, rfl, Keeps.of_below (hbX.trans ((Kept.put (n := w.heap.size) (by omega) hK rfl).below hbX.size))⟩
  case stop =>
    rintro cd k X hk h hK
    exact h.elim

/-- A result of three cells. -/
theorem results_cell3 {P : Program} {fn : Func} {p q r : Tmp} {t1 t2 t3 : TypeId} (h : fn.results = #[.cell p t1, .cell q t2, .cell r t3]) (tmps : Array Value) (w : World) {a b c : Nat} {u v x : Value}
    (ha : tmps.getD p undef = .pointer (some ⟨a, 0, none⟩)) (hb : tmps.getD q undef = .pointer (some ⟨b, 0, none⟩)) (hc : tmps.getD r undef = .pointer (some ⟨c, 0, none⟩))
    (h1 : ∀ w, w.cell? ⟨a, 0, none⟩ = some u → (loadVar t1 ⟨a, 0, none⟩).run P w = .ok u w) (h2 : ∀ w, w.cell? ⟨b, 0, none⟩ = some v → (loadVar t2 ⟨b, 0, none⟩).run P w = .ok v w) (h3 : ∀ w, w.cell? ⟨c, 0, none⟩ = some x → (loadVar t3 ⟨c, 0, none⟩).run P w = .ok x w)
    (ca : w.cell? ⟨a, 0, none⟩ = some u) (cb : w.cell? ⟨b, 0, none⟩ = some v) (cc : w.cell? ⟨c, 0, none⟩ = some x) : (results fn tmps).run P w = .ok (.tuple #[u, v, x]) w := by
  have ha' : tmps[p]?.getD undef = .pointer (some ⟨a, 0, none⟩) := by simpa using ha
  have hb' : tmps[q]?.getD undef = .pointer (some ⟨b, 0, none⟩) := by simpa using hb
  have hc' : tmps[r]?.getD undef = .pointer (some ⟨c, 0, none⟩) := by simpa using hc
  simp [results, h, ha', hb', hc', asAddr, Sem.run_bind, h1 w ca, h2 w cb, h3 w cc, Result.andThen]

theorem load_var {t : TypeId} {g : Nat} {v : Value} (hagg : ∀ w, (isAgg t).run Try.prog w = .ok false w) (w : World) (hc : w.cell? ⟨g, 0, none⟩ = some v) : (loadVar t ⟨g, 0, none⟩).run Try.prog w = .ok v w := by
  simp [loadVar, Sem.run_bind, hagg, hc, go_sem]

end Go.Proofs.Ytkcoiplhopdnlaa
