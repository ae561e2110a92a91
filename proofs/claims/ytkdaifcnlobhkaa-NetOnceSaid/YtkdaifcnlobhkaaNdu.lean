/-
  net: Due.
-/
import Derived.Test.YtkdaifcnlobhkaaNdi
import Derived.Deep.CutBlock
import Derived.Deep.CutRange
import Derived.Deep.DeepCutAuto
namespace Go.Proofs.Ytkdaifcnlobhkaa
open Go.RowKit
abbrev SD (W : World) (N M Y : Nat) (i : Int) (S : Tx) (w' : World) : Prop :=
  w'.cell? ⟨N, 1, none⟩ = some (.map (some M)) ∧ w'.cell? ⟨Y, 1, none⟩ = some (.int .i64 i) ∧ (Instr.lookup 58 (.map (some M)) (.int .i64 i) false).run Try.prog w' = .ok (.agg #[.string S]) w' ∧ Below W.heap.size W w'
theorem blk_zer {V w' : World} (b : Below (V.alloc (.cells #[.int .i64 0, .int .i64 0, .int .i64 0, .int .i64 0, .int .i64 0, .int .i64 0, .int .i64 0, .bool false, .slice none 0 0, .int .i64 0, .int .i64 0, .int .i64 0, .string ⟨#[]⟩] 35)).heap.size (V.alloc (.cells #[.int .i64 0, .int .i64 0, .int .i64 0, .int .i64 0, .int .i64 0, .int .i64 0, .int .i64 0, .bool false, .slice none 0 0, .int .i64 0, .int .i64 0, .int .i64 0, .string ⟨#[]⟩] 35)) w') : Blk w' V.heap.size 35 zerA := (Blk.new V 35 zerA).next b
theorem blk_zerd {V w' : World} (b : Below (V.alloc (.cells #[.int .i64 0, .int .i64 0, .int .i64 0, .int .i64 0, .int .i64 0, .int .i64 0, .int .i64 0, .bool false, .slice none 0 0, .int .i64 0, .int .i64 0, .int .i64 0, .string ⟨#[]⟩] 35)).drew.heap.size (V.alloc (.cells #[.int .i64 0, .int .i64 0, .int .i64 0, .int .i64 0, .int .i64 0, .int .i64 0, .int .i64 0, .bool false, .slice none 0 0, .int .i64 0, .int .i64 0, .int .i64 0, .string ⟨#[]⟩] 35)).drew w') : Blk w' V.heap.size 35 zerA := (Blk.drew (Blk.new V 35 zerA)).next b
theorem belowSet {W w' : World} (h : Below W.heap.size W w') (i : Nat) (v : Value) : Below W.heap.size W (w'.setCell ⟨W.heap.size, i, none⟩ v) := h.setCell (p := ⟨W.heap.size, i, none⟩) (Nat.le_refl _) v
theorem zer_cells {w : World} {g : Nat} (h : Blk w g 35 zerA) : w.cell? ⟨g, 0, none⟩ = some (.int .i64 0) ∧ w.cell? ⟨g, 1, none⟩ = some (.int .i64 0) ∧ w.cell? ⟨g, 2, none⟩ = some (.int .i64 0) ∧ w.cell? ⟨g, 3, none⟩ = some (.int .i64 0) ∧ w.cell? ⟨g, 4, none⟩ = some (.int .i64 0) ∧ w.cell? ⟨g, 5, none⟩ = some (.int .i64 0) ∧ w.cell? ⟨g, 6, none⟩ = some (.int .i64 0) ∧ w.cell? ⟨g, 7, none⟩ = some (.bool false) ∧ w.cell? ⟨g, 8, none⟩ = some (.slice none 0 0) ∧ w.cell? ⟨g, 9, none⟩ = some (.int .i64 0) ∧ w.cell? ⟨g, 10, none⟩ = some (.int .i64 0) ∧ w.cell? ⟨g, 11, none⟩ = some (.int .i64 0) ∧ w.cell? ⟨g, 12, none⟩ = some (.string ⟨#[]⟩) :=
  ⟨h.cell 0, h.cell 1, h.cell 2, h.cell 3, h.cell 4, h.cell 5, h.cell 6, h.cell 7, h.cell 8, h.cell 9, h.cell 10, h.cell 11, h.cell 12⟩
theorem zer_arr (f t m : Int) : ((((((((((((((zerA : Array Value).setIfInBounds 0 (.int .i64 1)).setIfInBounds 1 (.int .i64 f)).setIfInBounds 2 (.int .i64 t)).setIfInBounds 3 (.int .i64 m)).setIfInBounds 4 (.int .i64 0)).setIfInBounds 5 (.int .i64 0)).setIfInBounds 6 (.int .i64 0)).setIfInBounds 7 (.bool false)).setIfInBounds 8 (.slice none 0 0)).setIfInBounds 9 (.int .i64 0)).setIfInBounds 10 (.int .i64 0)).setIfInBounds 11 (.int .i64 0)).setIfInBounds 12 (.string ⟨#[]⟩)) = askA f t m := by
  unfold zerA askA
  simp
theorem zer_set {w : World} {g : Nat} (h : Blk w g 35 zerA) (f t m : Int) : Blk (((((((((((((w.setCell ⟨g, 0, none⟩ (.int .i64 1)).setCell ⟨g, 1, none⟩ (.int .i64 f)).setCell ⟨g, 2, none⟩ (.int .i64 t)).setCell ⟨g, 3, none⟩ (.int .i64 m)).setCell ⟨g, 4, none⟩ (.int .i64 0)).setCell ⟨g, 5, none⟩ (.int .i64 0)).setCell ⟨g, 6, none⟩ (.int .i64 0)).setCell ⟨g, 7, none⟩ (.bool false)).setCell ⟨g, 8, none⟩ (.slice none 0 0)).setCell ⟨g, 9, none⟩ (.int .i64 0)).setCell ⟨g, 10, none⟩ (.int .i64 0)).setCell ⟨g, 11, none⟩ (.int .i64 0)).setCell ⟨g, 12, none⟩ (.string ⟨#[]⟩)) g 35 (askA f t m) := by
  have k := (((((((((((((h.set 0 (.int .i64 1)).set 1 (.int .i64 f)).set 2 (.int .i64 t)).set 3 (.int .i64 m)).set 4 (.int .i64 0)).set 5 (.int .i64 0)).set 6 (.int .i64 0)).set 7 (.bool false)).set 8 (.slice none 0 0)).set 9 (.int .i64 0)).set 10 (.int .i64 0)).set 11 (.int .i64 0)).set 12 (.string ⟨#[]⟩))
  rw [zer_arr] at k
  exact k
theorem SD.of {W w' : World} {N M Y n : Nat} {i : Int} {S : Tx} {F : Lf} {cN cY : Array Value} {tY : TypeId} (kN : Blk W N 62 cN) (e1 : cN[1]? = some (.map (some M))) (kY : Blk W Y tY cY) (e2 : cY[1]? = some (.int .i64 i)) (l : Lts W M n F) (hF : F i = some S) (hi : I64 i) (b : Below W.heap.size W w') : SD W N M Y i S w' := by
  refine ⟨((kN.next b).cell 1).trans e1, ((kY.next b).cell 1).trans e2, ?_, b⟩
  have h := (l.next b).look hi
  rw [hF] at h
  exact h
/-- what Due tells -/
def DueN (w0 w : World) (N : Nat) (Z : Int) (R : List Ag.It) (G : Int → Ask) (C : Int → Int → Bool) (Q : Nat → Option Obj) (now : Int) (e : Ending) (w' : World) : Prop :=
  ∃ u X R', e = .returned u ∧ R = X ++ R' ∧ (∀ x ∈ X, x.t ≤ now) ∧ (∀ x ∈ R', now < x.t) ∧ NetQ w0 N Z R' G C Q w' ∧ w'.ownsRow w.heap.size 35 13 u (selA C G X).length (cellsM (selA C G X)) ∧ (∀ x ∈ X, OkA (G x.i)) ∧ w.heap.size ≤ w'.heap.size
set_option maxHeartbeats 16000000 in
set_option maxRecDepth 100000 in
theorem net_due {w0 w : World} {N : Nat} {Z : Int} {R : List Ag.It} {G : Int → Ask} {C : Int → Int → Bool} {Q : Nat → Option Obj} (h : NetQ w0 N Z R G C Q w) (now : Int) (hR : R.length ≤ 4096) (hZ : Z ≤ 1000000) :
    Calls Try.prog 14 #[.pointer (some ⟨N, 0, none⟩), .int .i64 now] w (DueN w0 w N Z R G C Q now) := by
  obtain ⟨A, r, M, F, cs, h, hG, hQ⟩ := h
  have HQ := Lib.hid hQ
  clear hQ
  have c0 := h.c0
  obtain ⟨hp, hid⟩ := agd_apart h.a
  have hz := h.z
  have DU := Lib.hid (Ag.due_any w w0.heap.size A Z r R now h.a hR)
  have HP := Lib.hid h
  have HG := Lib.hid hG
  have HPW := Lib.hid hp
  have HID := Lib.hid hid
  have HR := Lib.hid hR
  obtain ⟨i35, hi, hz0, hz1, hz2⟩ := info_parts info35
  clear h hG hp hid hR
  go_enter Try.func14, Try.ntmps14
  go_wp2_with fail
  refine DU.out.mono ?_
  rintro e w1 ⟨v, X, R', r', rfl, hX, hdue, hlate, a1, t1, o1, n1⟩
  subst hX
  obtain ⟨va, vc, rfl⟩ : ∃ a c, v = .slice a X.length c := Ag.own_slice (B := w.heap.size) o1
  have D0 : Hid (DI w0 w N Z R' G C A r' M cs X (.slice va X.length vc) (.slice none 0 0) Q 0 0 F w1) := Lib.hid
    ⟨HP.out.tch t1 a1 (Int.le_refl _), fun x hx => HG.out x (List.mem_append_right _ hx), fun x hx => HG.out x (List.mem_append_left _ (by simpa using hx)), o1, World.ownsRow_nil _ _ _ _, HP.out.k.lt, HP.out.a.lt.1, HP.out.l.lt, t1.size, HQ.out.tch t1, fun q o e => HQ.out.lt e⟩
  have hXl : X.length ≤ 4096 := by have := HR.out; rw [List.length_append] at this; omega
  have OKX : Hid (∀ x ∈ X, OkA (G x.i)) := Lib.hid (fun x hx => (HG.out x (List.mem_append_left _ hx)).2)
  have HD := Lib.hid hdue
  have HL := Lib.hid hlate
  have HXR : Hid (∀ x ∈ X, I64 x.i) := Lib.hid (fun x hx => by have := HID.out x (List.mem_append_left _ hx); unfold I64; omega)
  clear a1 t1 o1 n1 hdue hlate DU c0 HP HG HR HID hz hZ
  generalize hn : X.length = n at *
  have HN := Lib.hid hn
  clear hn
  go_wp2_with fail
  go_loopw [4, 17] (fun u i wr => ∃ (k : Nat) (F' : Lf), i = .int .i64 k ∧ k ≤ n ∧ Hid (DI w0 w N Z R' G C A r' M cs X (.slice va n vc) u Q k k F' wr)) (fun _ i _ => n - (intOf i).toNat)
  case atStart => exact ⟨0, F, rfl, Nat.zero_le _, D0⟩
  case round =>
    obtain ⟨k, F', rfl, hk, hD⟩ := hrel
    clear D0
    by_cases hlt : k < n
    rotate_left
    · have h1 : ¬ (k : Int) < (n : Int) := by omega
      go_wp2_with fail
      go_ret
      have ek : k = n := by omega
      have eX : X.take k = X := by rw [ek, ← HN.out, List.take_length]
      have hu := hD.out.u
      rw [eX] at hu
      exact ⟨u4, X, R', rfl, rfl, HD.out, HL.out, ⟨A, r', M, F', cs, hD.out.p, hD.out.g, hD.out.q⟩, hu, OKX.out, hD.out.hs⟩
    have h1 : (k : Int) < (n : Int) := by omega
    have h0 : (0 : Int) ≤ (k : Int) := by omega
    have hkX : k < X.length := by rw [HN.out]; exact hlt
    have hv0 := hD.out.v
    rw [HN.out] at hv0
    obtain ⟨g, cap, hv, hgl, hrow⟩ := Ag.own_cell hD.out.v (by omega)
    obtain ⟨rfl, rfl⟩ : va = some ⟨g, 0, none⟩ ∧ vc = cap := by simp only [Value.slice.injEq] at hv; exact ⟨hv.1, hv.2.2⟩
    obtain ⟨d0, d1, d2⟩ := hrow.cell (k := k) hkX
    obtain ⟨L1, L2, L3, OK1⟩ := let_drop hkX HPW.out hD.out.g hD.out.d
    have HX1 := Lib.hid (HXR.out X[k] (List.getElem_mem hkX))
    obtain ⟨W1, hW1⟩ : ∃ W1, W1 = wr.alloc (.cells #[.int .i64 X[k].t, .int .i64 X[k].i, .int .i64 X[k].x] 87) := ⟨_, rfl⟩
    have bW : Below wr.heap.size wr W1 := by rw [hW1]; exact BN1 _ _
    have KY : Hid (Blk W1 wr.heap.size 87 #[.int .i64 X[k].t, .int .i64 X[k].i, .int .i64 X[k].x]) := Lib.hid (by rw [hW1]; exact Blk.new _ _ _)
    have D1 := Lib.hid (hD.out.next bW)
    have HW1 := Lib.hid hW1
    have LL1 := Lib.hid L1
    have LL2 := Lib.hid L2
    have LL3 := Lib.hid L3
    clear hD hv0 hv hrow hgl bW hW1 L1 L2 L3
    generalize hx : X[k] = x at *
    have HXK := Lib.hid hx
    clear hx
    go_upto_region 6 with fail
    rw [← HW1.out]
    have LT := Lib.hid (fun V => letter_ask (G x.i).f (G x.i).t (G x.i).m OK1.f OK1.t OK1.m OK1.ne V)
    obtain ⟨S, hS⟩ : ∃ S, S = askS (G x.i).f (G x.i).t (G x.i).m := ⟨_, rfl⟩
    rw [← hS] at LT LL3
    have HSS := Lib.hid hS
    have OKh := Lib.hid OK1
    clear hS OK1 d0 d1 d2
    generalize hY : wr.heap.size = Y at *
    have HYY := Lib.hid hY
    clear hY
    have S1 := SD.of D1.out.p.k D1.out.p.k1 KY.out rfl D1.out.p.l LL3.out HX1.out ((Below.refl W1.heap.size W1).drew)
    go_cut [7] (fun s7 wx => ∃ X7, s7 = .pointer (some ⟨X7, 0, none⟩) ∧ Hid (Blk wx X7 35 (askA (G x.i).f (G x.i).t (G x.i).m)) ∧ Hid (Below W1.heap.size W1 wx))
    case first =>
      generalize G x.i = ax at *
      unfold askA at LT
      go_region_held3 (fun w' => w'.cell? ⟨N, 1, none⟩ = some (.map (some M)) ∧ w'.cell? ⟨Y, 1, none⟩ = some (.int .i64 x.i) ∧ (Instr.lookup 58 (.map (some M)) (.int .i64 x.i) false).run Try.prog w' = .ok (.agg #[.string S]) w' ∧ Below W1.heap.size W1 w')
        (first | (with_reducible exact S1) | (refine SD.of D1.out.p.k D1.out.p.k1 KY.out rfl D1.out.p.l LL3.out HX1.out ?_; (repeat (with_reducible first | assumption | exact Below.refl _ _ | refine Below.drew ?_ | refine belowAlloc ?_ _ | refine belowSet ?_ _ _)); done))
        ((go_at_call 32; with_reducible refine (LT.out _).mono ?_; rintro e w3 ⟨rfl, b3⟩; have c3 : Below W1.heap.size W1 w3 := belowTrans (by (repeat (with_reducible first | assumption | exact Below.refl _ _ | refine Below.drew ?_ | refine belowAlloc ?_ _))) b3; (first | ((first | have kx := blk_zer b3 | have kx := blk_zerd b3); obtain ⟨z0, z1, z2, z3, z4, z5, z6, z7, z8, z9, z10, z11, z12⟩ := zer_cells kx; have q0 := kx.free 0; have q1 := kx.free 1; have q2 := kx.free 2; have q3 := kx.free 3; have q4 := kx.free 4; have q5 := kx.free 5; have q6 := kx.free 6; have q7 := kx.free 7; have q8 := kx.free 8; have q9 := kx.free 9; have q10 := kx.free 10; have q11 := kx.free 11; have q12 := kx.free 12) | skip)))
      · go_wp2_with fail
        go_meet
        exact ⟨_, rfl, Lib.hid (Blk.new w3 35 _), Lib.hid (belowAlloc c3 _)⟩
      all_goals
        clear z0 z1 z2 z3 z4 z5 z6 z7 z8 z9 z10 z11 z12 q0 q1 q2 q3 q4 q5 q6 q7 q8 q9 q10 q11 q12
        have KZ := Lib.hid (zer_set kx ax.f ax.t ax.m)
        have CZ := Lib.hid (belowSet (belowSet (belowSet (belowSet (belowSet (belowSet (belowSet (belowSet (belowSet (belowSet (belowSet (belowSet (belowSet c3 0 (.int .i64 1)) 1 (.int .i64 ax.f)) 2 (.int .i64 ax.t)) 3 (.int .i64 ax.m)) 4 (.int .i64 0)) 5 (.int .i64 0)) 6 (.int .i64 0)) 7 (.bool false)) 8 (.slice none 0 0)) 9 (.int .i64 0)) 10 (.int .i64 0)) 11 (.int .i64 0)) 12 (.string ⟨#[]⟩))
        generalize (((((((((((((w3.setCell ⟨W1.heap.size, 0, none⟩ (.int .i64 1)).setCell ⟨W1.heap.size, 1, none⟩ (.int .i64 ax.f)).setCell ⟨W1.heap.size, 2, none⟩ (.int .i64 ax.t)).setCell ⟨W1.heap.size, 3, none⟩ (.int .i64 ax.m)).setCell ⟨W1.heap.size, 4, none⟩ (.int .i64 0)).setCell ⟨W1.heap.size, 5, none⟩ (.int .i64 0)).setCell ⟨W1.heap.size, 6, none⟩ (.int .i64 0)).setCell ⟨W1.heap.size, 7, none⟩ (.bool false)).setCell ⟨W1.heap.size, 8, none⟩ (.slice none 0 0)).setCell ⟨W1.heap.size, 9, none⟩ (.int .i64 0)).setCell ⟨W1.heap.size, 10, none⟩ (.int .i64 0)).setCell ⟨W1.heap.size, 11, none⟩ (.int .i64 0)).setCell ⟨W1.heap.size, 12, none⟩ (.string ⟨#[]⟩)) = w4 at *
        clear kx c3 b3
        go_wp2_with fail
        go_meet
        exact ⟨_, rfl, KZ, CZ⟩
    case rest =>
      obtain ⟨X7, rfl, KX, BX⟩ := hcut
      have D2 := Lib.hid (D1.out.next BX.out)
      have KY2 := Lib.hid (KY.out.next BX.out)
      clear S1 D1 KY BX HW1 HYY LT
      have c1 : wc.cell? ⟨N, 1, none⟩ = some (.map (some M)) := D2.out.p.c1
      have y1 : wc.cell? ⟨Y, 1, none⟩ = some (.int .i64 x.i) := KY2.out.cell 1
      go_wp2_with fail
      refine wp_region_still_tail 6 (by kernel_rfl) (by kernel_rfl) ?_
      simp only [List.take_succ_cons, List.take_zero, List.drop_succ_cons, List.drop_zero]
      repeat still_step
      try refine wpStill_nil ?_
      change wpList _ _ _ _ _ wc.drew
      have D3 := Lib.hid (D2.out.next ((Below.refl _ wc).drew))
      have KX3 := Lib.hid (Blk.drew KX.out)
      clear c1 y1 D2 KY2 KX
      generalize wc.drew = w5 at *
      obtain ⟨w6, hrun, l6, f6, _⟩ := D3.out.p.l.strike HX1.out 0
      have D4 := Lib.hid (D3.out.strike f6 l6 LL1.out LL2.out)
      have KX6 := Lib.hid (KX3.out.fr f6 (D3.out.p.l.nblk KX3.out))
      clear l6 f6 D3 KX3 LL1 LL2
      go_wp2_with fail
      clear hrun
      obtain ⟨fn, hfn, f7⟩ := fNat OKh.out.f
      obtain ⟨tn, htn, t7⟩ := fNat OKh.out.t
      have HGx : Hid (G x.i = ⟨fn, tn, (G x.i).m⟩) := Lib.hid (by rw [← hfn, ← htn])
      have HFN := Lib.hid hfn
      have HTN := Lib.hid htn
      rw [hfn, htn] at KX6
      clear hfn htn
      have g1 : w6.cell? ⟨X7, 1, none⟩ = some (.int .i64 fn) := KX6.out.cell 1
      have g2 : w6.cell? ⟨X7, 2, none⟩ = some (.int .i64 tn) := KX6.out.cell 2
      have cc := D4.out.p.cc fn tn f7 t7
      have i1 : (0 : Int) ≤ (fn : Int) := by omega
      have i2 : (fn : Int) < 7 := by omega
      have i3 : (0 : Int) ≤ (tn : Int) := by omega
      have i4 : (tn : Int) < 7 := by omega
      have hk1 : k + 1 ≤ n := by omega
      have CXk : Hid (C (G X[k].i).f (G X[k].i).t = C fn tn) := Lib.hid (by rw [HXK.out, HFN.out, HTN.out])
      by_cases hC : C fn tn = true
      · rw [hC] at cc
        go_quiet (fail)
        have D5 := Lib.hid ((D4.out.next (bel_drewN w6 nq)).skip hkX (by rw [CXk.out, hC]))
        clear cc g1 g2 D4 KX6
        go_wp2_with fail
        go_roundw
        case rel => exact ⟨k + 1, _, by go_num, hk1, D5⟩
        case measure => simp [intOf]; omega
      have hC' : C fn tn = false := by simpa using hC
      rw [hC'] at cc
      go_quiet (fail)
      have D5 := Lib.hid (D4.out.next (bel_drewN w6 nq))
      have KX7 := Lib.hid (KX6.out.next (bel_drewN w6 nq))
      have HC0 := Lib.hid (show C (G X[k].i).f (G X[k].i).t = false by rw [CXk.out, hC'])
      clear cc g1 g2 D4 KX6 hC hC' CXk
      generalize w6.drewN nq = w7 at *
      have HLs : Hid ((selA C G (X.take k)).length ≤ 4096) := Lib.hid (by
        have h1 := selA_le C G (X.take k)
        have h2 := List.length_take_le k X
        omega)
      have HAK : Hid ((askA (G X[k].i).f (G X[k].i).t (G X[k].i).m).toList = [.int .i64 1, .int .i64 fn, .int .i64 tn, .int .i64 (G x.i).m, .int .i64 0, .int .i64 0, .int .i64 0, .bool false, .slice none 0 0, .int .i64 0, .int .i64 0, .int .i64 0, .string ⟨#[]⟩]) := Lib.hid (by rw [HXK.out, HFN.out, HTN.out]; rfl)
      generalize (G x.i).m = m7 at *
      have H1C : Hid (∀ u ∈ [.int .i64 1, .int .i64 fn, .int .i64 tn, .int .i64 m7, .int .i64 0, .int .i64 0, .int .i64 0, .bool false, .slice none 0 0, .int .i64 0, .int .i64 0, .int .i64 0, .string ⟨#[]⟩], Value.oneCell' u = true) := Lib.hid (by
        intro u hu
        simp only [List.mem_cons, List.not_mem_nil, or_false] at hu
        rcases hu with rfl | rfl | rfl | rfl | rfl | rfl | rfl | rfl | rfl | rfl | rfl | rfl | rfl <;> rfl)
      have HB7 := Lib.hid D5.out.hs
      unfold askA at KX7
      go_wp2_with (first | (refine load_msg KX7.out rfl rfl _ rfl rfl ?_) | (at_builtin; refine wpList_append_lies _ rfl (.tmp 46) (.tmp 48) 48 rfl w.heap.size 35 i35 (.agg zerA) 13 128 Try.underlying48 hi hz0 hz1 hz2 rfl (by decide) u4 (selA C G (X.take k)).length (cellsM (selA C G (X.take k))) rfl (World.ownsRow.alloc D5.out.u _) ⟨w7.heap.size, 0, none⟩ 1 1 [.int .i64 1, .int .i64 fn, .int .i64 tn, .int .i64 m7, .int .i64 0, .int .i64 0, .int .i64 0, .bool false, .slice none 0 0, .int .i64 0, .int .i64 0, .int .i64 0, .string ⟨#[]⟩] rfl rfl (World.news_of_block (cs := #[.int .i64 1, .int .i64 fn, .int .i64 tn, .int .i64 m7, .int .i64 0, .int .i64 0, .int .i64 0, .bool false, .slice none 0 0, .int .i64 0, .int .i64 0, .int .i64 0, .string ⟨#[]⟩]) (heap_alloc_new w7 _)) H1C.out (by decide) (by have := HLs.out; unfold maxLen; omega) (by have := HLs.out; omega) (by have := HB7.out; simp; omega) _ rfl ?_; intro g8 cap8 w8 ho8 hg8 hat8 _))
      have F8 : Fr w7 w8 (fun q => u4.ownBlock = some q) := (Fr.of_below (BN1 w7 _) _).on ((Fr.of_grown hg8).mono (fun q _ e => e.symm))
      have D8 := Lib.hid (D5.out.app hkX HC0.out (by rw [HAK.out]; exact ho8) F8)
      clear ho8 hg8 hat8 F8 D5 KX7
      go_wp2_with fail
      go_roundw
      case rel => exact ⟨k + 1, _, by go_num, hk1, D8⟩
      case measure => simp [intOf]; omega
end Go.Proofs.Ytkdaifcnlobhkaa
