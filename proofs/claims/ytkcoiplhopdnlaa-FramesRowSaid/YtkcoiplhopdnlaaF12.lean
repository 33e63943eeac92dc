/- frames: All. -/
import Derived.Test.YtkcoiplhopdnlaaF11
namespace Go.Proofs.Ytkcoiplhopdnlaa
open Go.RowKit Go.Shelf
set_option linter.unusedVariables false
attribute [local go_sem] Oper.semAt_some

set_option maxRecDepth 100000 in
set_option maxHeartbeats 2000000 in
theorem all_seq (R n c : Nat) (A : Option Addr) (xs : List UInt8) (hn : xs.length = n) : Seqs Try.prog 20 #[.pointer (some ⟨R, 0, none⟩)] (RecE xs) (recs xs).length (recs xs).length (RestD R A n c xs) := by
  intro l J Jx W hD hJ hJx hY h0
  refine (callsIn_wide (n := 3)).1 ?_
  refine callsIn_of_wp_marks Try.func20 rfl trivial ?_ rfl
  simp only [Try.ntmps20, List.size_toArray, List.length_cons, List.length_nil, Nat.reduceAdd, Nat.reduceSub, Array.replicate_succ, Array.replicate_zero, List.push_toArray, List.append_toArray, List.nil_append, List.cons_append]
  have HD := Lib.hid hD
  have HN := Lib.hid hn
  have c0 : (W.alloc (.cells #[.func (.yield l) #[] #[]] 47)).cell? ⟨R, 0, none⟩ = some (.slice A n c) := (World.cell?_alloc_lt _ _ _ (lt_of_cell hD.1)).trans hD.1
  clear hD hn
  gi_wp2_with (refine ⟨trivial, ?_⟩; gi_at_call 18; refine (callsIn_wide.2 (records_is _ _ _ _)).mono ?_; rintro e w2 ⟨rfl, rfl⟩)
  obtain ⟨W0, hW0⟩ : ∃ W0, (W.alloc (.cells #[.func (.yield l) #[] #[]] 47)).alloc (.cells #[.slice A n c] 27) = W0 := ⟨_, rfl⟩
  have hz : W0.heap.size = W.heap.size + 2 := by rw [← hW0]; simp
  have hk0 : Keeps [] W W0 := by rw [← hW0]; exact ((Keeps.refl [] W).alloc _).alloc _
  have cY : W0.cell? ⟨W.heap.size, 0, none⟩ = some (.func (.yield l) #[] #[]) := by
    rw [← hW0, World.cell?_alloc_lt _ _ _ (by simp), World.cell?_alloc_new]
    rfl
  have cB : W0.cell? ⟨W.heap.size + 1, 0, none⟩ = some (.slice A n c) := by
    have := World.cell?_alloc_new (W.alloc (.cells #[.func (.yield l) #[] #[]] 47)) #[.slice A n c] 27 0
    rw [World.size_alloc] at this
    rw [← hW0, this]
    rfl
  rw [hW0]
  have D0 : RestD (W.heap.size + 1) A n c xs W0 := ⟨cB, HD.out.2.grow hk0⟩
  have DR0 : RestD R A n c xs W0 := (RestD.under 0).keeps HD.out hk0
  have J0 : J 0 W0 := (hJ 0).keeps h0 hk0
  have uY : Under W0.heap.size (fun X => X.cell? ⟨W.heap.size, 0, none⟩ = some (.func (.yield l) #[] #[])) := fun X Y h hb => hb.cell h
  clear c0 hW0
  refine range_seqs (n := 3) (gf := 30) (lb := #[.pointer (some ⟨W.heap.size + 1, 0, none⟩)]) rfl (enters_of Try.func30 (by kernel_rfl) rfl) (records_seq (W.heap.size + 1) n c A xs HN.out) (fun k args X h => by obtain ⟨v, r, rfl, _⟩ := h; rfl) (RestD.under _) D0
    (fun k X => J k X ∧ RestD R A n c xs X ∧ X.cell? ⟨W.heap.size, 0, none⟩ = some (.func (.yield l) #[] #[]))
    (fun cd k X => cd = .ret ∧ k < (recs xs).length ∧ Jx k X)
    (fun k X Y h hb => ⟨(hJ k).mono (by omega) X Y h.1 hb, RestD.under _ X Y h.2.1 hb, uY X Y h.2.2 hb⟩)
    (fun cd k X Y h hb => ⟨h.1, h.2.1, (hJx k).mono (by omega) X Y h.2.2 hb⟩)
    ⟨J0, DR0, cY⟩
    (fun args => { tmps := #[.func (.yield l) #[] #[], .pointer (some ⟨R, 0, none⟩), .pointer (some ⟨W.heap.size, 0, none⟩), args.getD 0 undef, args.getD 1 undef, .slice A n c, .func (.func 30) #[] #[.pointer (some ⟨W.heap.size + 1, 0, none⟩)], args.getD 0 undef, args.getD 1 undef, undef, undef, undef, undef, undef, undef], defers := [] })
    (fun k args A l o h _ hl => recE_put k args A l o h hl) ?assign ?body ?done ?stop
  case assign =>
    rintro l k args W K ⟨v, r, rfl, hr, hv⟩ hK
    gi_wp2
    exact hK
  case body =>
    rintro lp k args X hk ⟨hJk, hDk, hYk⟩ hD2 hzX ⟨v, r, rfl, hr, hv⟩
    have hv' := hv
    obtain ⟨A', c', rfl, hyc, hcm', _⟩ := hv'
    obtain ⟨hp1, hrl⟩ := plc_succ hr
    have hvd : BytesAt X.drew (.slice A' r.length c') r := hv.grow (Keeps.refl [] X).drew
    have HC := Lib.hid ((clone_any (.slice A' r.length c') r X.drew (by omega) hvd).mono (R' := fun e X1 => ∃ B d, e = .returned (.slice B r.length d) ∧ X1.cell? ⟨W.heap.size, 0, none⟩ = some (.func (.yield l) #[] #[]) ∧ Hid (Asks Try.prog l #[.int .i64 (plc xs k : Nat), .slice B r.length d] X1 fun e w3 => ∃ tt : Bool, e = .returned (.bool tt) ∧ Hid (Left (fun w3 => k < (recs xs).length ∧ (J (k + 1) w3 ∧ RestD R A n c xs w3 ∧ w3.cell? ⟨W.heap.size, 0, none⟩ = some (.func (.yield l) #[] #[])) ∧ RestD (W.heap.size + 1) A n c xs w3 ∧ Over W0.heap.size X w3) (fun w3 => (k < (recs xs).length ∧ Jx k w3) ∧ Over W0.heap.size X w3) tt w3))) (fun e X1 h => by
      obtain ⟨B, d, rfl, ho, hb1⟩ := h
      obtain ⟨hbb, hown⟩ := own_bytes ho rfl
      have kd : Keeps [] X X1 := (Keeps.refl [] X).drew.trans' (Keeps.of_below hb1)
      have hzw := kd.size
      have cYd := uY.keeps hYk kd
      have c2 : X1.cell? ⟨W.heap.size + 1, 0, none⟩ = some (.slice A n c) := (kd.cell (p := ⟨W.heap.size + 1, 0, none⟩) (lt_of_cell hD2.1) (by simp)).trans hD2.1
      have hX1 : W.heap.size + 1 < X1.heap.size := lt_of_cell c2
      refine ⟨B, d, rfl, cYd, fun m => ?_⟩
      refine YieldAt.mono (hY k X1 #[.int .i64 (plc xs k : Nat), .slice B r.length d] hk ((hJ k).keeps hJk kd) ((RestD.under 0).keeps hDk kd) (by omega) ⟨_, _, rfl, hr, hbb⟩ m) (fun e w3 h => ?_)
      rcases h with ⟨rfl, h1, h2, h3, ho⟩ | ⟨rfl, h1, ho⟩
      · refine ⟨true, rfl, h1, ⟨h2, h3, ?_⟩, ⟨?_, h3.2⟩, (Over.of_keeps kd).trans (ho.mono (by omega))⟩
        · exact (ho.cell (p := ⟨W.heap.size, 0, none⟩) (Nat.le_refl _) (by show W.heap.size < X1.heap.size; omega)).trans cYd
        · exact (ho.cell (p := ⟨W.heap.size + 1, 0, none⟩) (by show W.heap.size ≤ W.heap.size + 1; omega) (by show W.heap.size + 1 < X1.heap.size; omega)).trans c2
      · exact ⟨false, rfl, ⟨hk, h1⟩, (Over.of_keeps kd).trans (ho.mono (by omega))⟩))
    have hmx : Try.prog.follows .mixedOrders = true := by kernel_rfl
    have cYX : X.drew.cell? ⟨W.heap.size, 0, none⟩ = some (.func (.yield l) #[] #[]) := hYk
    clear hvd hv hcm' hyc hp1
    gi_wp2
    gi_region_with_o (first | (refine ⟨trivial, ?_⟩; gi_at_call 19; refine (CallsIn.inRound lp (callsIn_wide.2 HC.out)).mono ?_; rintro e X1 ⟨B, d, rfl, cY1, HA⟩; obtain ⟨fn, tmps, assign, body, hyr, hR⟩ := HA.out (3 - 1)) | (refine hR.mono ?_; rintro e w3 ⟨tt, rfl, HG⟩))
    all_goals cases tt
    all_goals gi_wp2
    all_goals first | exact HG.out | exact ⟨⟨rfl, HG.out.1⟩, HG.out.2⟩
  case done =>
    rintro X hNM ⟨h1, _, _⟩ hK
    gi_wp2
    refine ⟨by simp, .inl ⟨_, _, rfl, run_takeDeferred hK, ?_⟩⟩
    exact ⟨_, results_none rfl _ _ _, ⟨_, rfl⟩, .inl ⟨Nat.le_refl _, hJ _ _ _ h1 (Kept.put (by omega) hK rfl)⟩⟩
  case stop =>
    rintro cd k X hk ⟨rfl, h1, h2⟩ hK
    gi_wp2
    refine ⟨by simp, .inl ⟨_, _, rfl, run_takeDeferred hK, ?_⟩⟩
    exact ⟨_, results_none rfl _ _ _, ⟨_, rfl⟩, .inr ⟨k, h1, hJx _ _ _ h2 (Kept.put (by omega) hK rfl)⟩⟩

end Go.Proofs.Ytkcoiplhopdnlaa
