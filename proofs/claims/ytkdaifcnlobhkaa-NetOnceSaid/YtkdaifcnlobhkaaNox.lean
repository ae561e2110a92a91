/-
  NetOnce as a walk.
-/
import Derived.Test.YtkdaifcnlobhkaaNon
import Derived.Test.YtkdaifcnlobhkaaNop
namespace Go.Proofs.Ytkdaifcnlobhkaa
open Go.RowKit
theorem info3 : (Try.prog.info? 3).map (fun i => (i.zero, i.size, i.bytes)) = some (some (.int .i64 0), 1, 8) := by kernel_rfl
theorem info4 : (Try.prog.info? 4).map (fun i => (i.zero, i.size, i.bytes)) = some (some (.bool false), 1, 1) := by kernel_rfl
theorem make_at (D : Nat → Int) (n : Nat) (hn : n ≤ 300) (w : World) : (Instr.makeSlice 42 (.int .i64 ((n : Int) + 1)) (.int .i64 ((n : Int) + 1))).run Try.prog w = .ok (.slice (some ⟨w.heap.size, 0, none⟩) (n + 1) (n + 1)) (w.alloc (.cells (atA D n 0) 3)) := by
  obtain ⟨i3, hi, hz0, hz1, hz2⟩ := info_parts info3
  have h := run_make (P := Try.prog) w 42 3 i3 (.int .i64 0) Try.underlying42 hi hz0 .i64 .i64 ((n : Int) + 1) ((n : Int) + 1) (by omega) (Int.le_refl _) (by rw [hz2]; omega) (by omega)
  rw [hz1, show ((n : Int) + 1).toNat = n + 1 by omega, at_made D] at h
  exact h
theorem make_cm (n : Nat) (hn : n ≤ 300) (w : World) : (Instr.makeSlice 47 (.int .i64 ((n : Int) + 1)) (.int .i64 ((n : Int) + 1))).run Try.prog w = .ok (.slice (some ⟨w.heap.size, 0, none⟩) (n + 1) (n + 1)) (w.alloc (.cells (cmA (fun _ => false) n) 4)) := by
  obtain ⟨i4, hi, hz0, hz1, hz2⟩ := info_parts info4
  have h := run_make (P := Try.prog) w 47 4 i4 (.bool false) Try.underlying47 hi hz0 .i64 .i64 ((n : Int) + 1) ((n : Int) + 1) (by omega) (Int.le_refl _) (by rw [hz2]; omega) (by omega)
  rw [hz1, show ((n : Int) + 1).toNat = n + 1 by omega, cm_made] at h
  exact h
/-- how long each takes -/
def dlN (xs : List Int) (j : Nat) : Nat := ((wrap64 ((xs.getD j 0).tmod 50 + 50)).tmod 50).toNat
theorem dlN_eq (xs : List Int) (j : Nat) : (wrap64 ((xs.getD j 0).tmod 50 + 50)).tmod 50 = (dlN xs j : Int) ∧ dlN xs j < 50 := by
  obtain ⟨n, e, h⟩ := rem_two (xs.getD j 0) 50 (by decide) (by decide)
  unfold dlN
  rw [e]
  exact ⟨by simp, by omega⟩
/-- when each is to come -/
def dD (xs : List Int) (id : Nat) : Int := ((id - 1 : Nat) : Int) + (dlN xs (id - 1) : Int)
theorem dD_succ (xs : List Int) (k : Nat) : dD xs (k + 1) = (k : Int) + (dlN xs k : Int) := rfl
theorem dD_bd (xs : List Int) {id : Nat} (h : id ≤ 300) : 0 ≤ dD xs id ∧ dD xs id ≤ 400 := by
  have := (dlN_eq xs (id - 1)).2
  unfold dD
  omega
theorem getD_get {xs : List Int} {k : Nat} (h : k < xs.length) : xs[k] = xs.getD k 0 := by
  rw [List.getD_eq_getElem?_getD, List.getElem?_eq_getElem h]; rfl
/-- the two slices of the law's own -/
def Q2 (T S : Nat) (ca : Array Value) (f : Nat → Bool) (n : Nat) : Nat → Option Obj := updQ (updQ noQ T (.cells ca 3 (0, 0))) S (.cells (cmA f n) 4 (0, 0))
theorem q2_S (T S : Nat) (ca : Array Value) (f : Nat → Bool) (n : Nat) : Q2 T S ca f n S = some (.cells (cmA f n) 4 (0, 0)) := updQ_same _ _ _
theorem q2_T {T S : Nat} (h : T < S) (ca : Array Value) (f : Nat → Bool) (n : Nat) : Q2 T S ca f n T = some (.cells ca 3 (0, 0)) := by
  unfold Q2
  rw [updQ_other _ _ (by omega), updQ_same]
/-- while the due ones are looked through -/
structure LI (w wb : World) (N T S n : Nat) (D : Nat → Int) (X R' : List Ag.It) (f f' : Nat → Bool) (u : Value) (p : Nat) (lv : Int) (wr : World) : Prop where
  s : NetQ w N (n : Int) R' gO noC (Q2 T S (atA D n n) f' n) wr
  m : MInv f f' X p
  o : wr.ownsRow wb.heap.size 35 13 u (X.map (fun x => gO x.i)).length (cellsM (X.map (fun x => gO x.i)))
  l : ∀ x ∈ X.drop p, lv ≤ x.t
theorem LI.step {w wb wr : World} {N T S n p id : Nat} {D : Nat → Int} {X R' : List Ag.It} {f f' : Nat → Bool} {u : Value} {lv : Int} (h : LI w wb N T S n D X R' f f' u p lv wr) (hS : w.heap.size ≤ S) (hp : p < X.length) (hi : X[p].i = (id : Int)) (hs : X.Pairwise Ag.It.lt) :
    LI w wb N T S n D X R' f (fun j => if j = id then true else f' j) u (p + 1) X[p].t (wr.setCell ⟨S, id, none⟩ (.bool true)) := by
  refine ⟨?_, minv_next h.m hp hi, Fr.own h.o (fr_set wr S id (.bool true)) (fun q hq e => ?_), fun x hx => ?_⟩
  · have g := h.s.put (q2_S _ _ _ _ _) hS id (.bool true)
    unfold Q2 at g
    rw [updQ_twice, cmA_set] at g
    exact g
  · obtain ⟨_, c, k⟩ := own_ty h.o q hq
    subst e
    exact absurd (k.ty (h.s.blk (q2_S _ _ _ _ _))) (by decide)
  · have e := List.drop_eq_getElem_cons hp
    have hd : (X.drop p).Pairwise Ag.It.lt := List.Pairwise.drop hs
    rw [e] at hd
    have := List.rel_of_pairwise_cons hd hx
    unfold Ag.It.lt at this
    omega
theorem send_O {w wr : World} {N k : Nat} {R : List Ag.It} {Q : Nat → Option Obj} {d : Nat} (h : NetQ w N (k : Int) R gO noC Q wr) (hk : k < 300) (hR : R.length = k) (hd : d < 50) :
    Calls Try.prog 12 #[.pointer (some ⟨N, 0, none⟩), .int .i64 (k : Int), .agg (askA ((k : Int) % 7) (((k : Int) + 1) % 7) ((k : Int) + 1)), .int .i64 (d : Int)] wr fun e w' => e = .returned (.tuple #[.int .i64 ((k : Int) + 1), .int .i64 0]) ∧ NetQ w N ((k + 1 : Nat) : Int) (Ag.ins ⟨(k : Int) + d, (k : Int) + 1, 0⟩ R) gO noC Q w' :=
  (send_any h (k : Int) (d : Int) ⟨(k : Int) % 7, ((k : Int) + 1) % 7, (k : Int) + 1⟩ ⟨by simp only; omega, by simp only; omega, by simp only; omega, by simp only; omega⟩ (by omega) (by omega) rfl (by omega) (by omega)).mono fun e w' hs => by
    obtain ⟨he, hn⟩ := hs
    rw [gO_put] at hn
    exact ⟨he, by exact_mod_cast hn⟩
set_option maxHeartbeats 32000000 in
set_option maxRecDepth 100000 in
theorem once_law (p q : Option Addr) (cp cq : Nat) (xs ys : List Int) (w : World) (hx : Ints w p xs) (hy : Ints w q ys) (hxl : xs.length ≤ 9223372036854775807) (hyl : ys.length ≤ 9223372036854775807) :
    Calls Try.prog 4 #[.slice p xs.length cp, .slice q ys.length cq] w fun e w' => e = .returned (.bool true) ∧ Below w.heap.size w w' := by
  have NW := Lib.hid (net_new w w gO (Below.refl _ _))
  have AW := Lib.hid awake_any
  have HX := Lib.hid hx
  have HY := Lib.hid hy
  clear hx hy
  generalize hn : xs.length = n at *
  generalize hm : ys.length = m at *
  have HN := Lib.hid hn
  have HM := Lib.hid hm
  clear hn hm
  go_enter Try.func4, Try.ntmps4
  go_wp2_with fail
  refine NW.out.mono ?_
  rintro e w1 ⟨N, rfl, h1⟩
  have H1 := Lib.hid h1
  clear h1 NW
  go_wp2_with fail
  refine (AW.out _).mono ?_
  rintro e w2 ⟨rfl, b2⟩
  have H2 := Lib.hid (H1.out.next b2)
  clear b2 H1
  by_cases hbig : 300 < n ∨ 300 < m
  · have AW2 : Hid (Below w.heap.size w w2) := Lib.hid H2.out.bel
    clear H2
    by_cases hb1 : 300 < n
    · have hb2 : (300 : Int) < (n : Int) := by omega
      clear hbig hb1
      go_wp2_with fail
      refine (AW.out _).mono ?_
      rintro e w3 ⟨rfl, b3⟩
      go_wp2_with fail
      go_ret
      exact ⟨rfl, AW2.out.trans (b3.mono AW2.out.size)⟩
    · have hb2 : ¬ (300 : Int) < (n : Int) := by omega
      have hb3 : (300 : Int) < (m : Int) := by omega
      clear hbig hb1
      go_wp2_with fail
      refine (AW.out _).mono ?_
      rintro e w3 ⟨rfl, b3⟩
      go_wp2_with fail
      go_ret
      exact ⟨rfl, AW2.out.trans (b3.mono AW2.out.size)⟩
  have hn3 : n ≤ 300 := by omega
  have hm3 : m ≤ 300 := by omega
  have nI : ¬ (300 : Int) < (n : Int) := by omega
  have mI : ¬ (300 : Int) < (m : Int) := by omega
  have nB : decide ((300 : Int) < (n : Int)) = false := decide_eq_false nI
  have mB : decide ((300 : Int) < (m : Int)) = false := decide_eq_false mI
  clear hbig
  have mk1 := make_at (dD xs) n hn3
  have H3 : Hid (NetQ w N ((0 : Nat) : Int) [] gO noC (updQ noQ w2.heap.size (.cells (atA (dD xs) n 0) 3 (0, 0))) (w2.alloc (.cells (atA (dD xs) n 0) 3))) := Lib.hid (H2.out.more (BN1 _ _) (Nat.le_refl _) (heap_alloc_new w2 _))
  have hT : Hid (w.heap.size ≤ w2.heap.size) := Lib.hid H2.out.bel.size
  clear H2
  go_wp2_with fail
  clear mk1
  generalize w2.alloc (.cells (atA (dD xs) n 0) 3) = w3 at *
  generalize w2.heap.size = T at *
  go_loopw [7] (fun i wr => ∃ (k : Nat) (R : List Ag.It), i = .int .i64 (k : Int) ∧ k ≤ n ∧ Hid (R.length = k) ∧ Hid (OInv (dD xs) k (fun _ => false) R) ∧ Hid (NetQ w N (k : Int) R gO noC (updQ noQ T (.cells (atA (dD xs) n k) 3 (0, 0))) wr)) (fun i _ => n - (intOf i).toNat)
  case atStart => exact ⟨0, [], rfl, Nat.zero_le _, Lib.hid rfl, Lib.hid ⟨fun id h1 h2 => absurd h2 (by omega), fun x hx => by simp at hx⟩, H3⟩
  case round =>
    obtain ⟨k, R, rfl, hk, hRl, hO, hH⟩ := hrel
    clear H3
    by_cases hlt : k < n
    · have h1 : (k : Int) < (n : Int) := by omega
      have h0 : (0 : Int) ≤ (k : Int) := by omega
      have hkL : k < xs.length := by rw [HN.out]; exact hlt
      obtain ⟨g, po, rfl, hg, d0⟩ := HX.out.below hH.out.bel k hkL
      clear hg
      rw [getD_get hkL] at d0
      obtain ⟨ed, hd⟩ := dlN_eq xs k
      have KT : Hid (Blk wr T 3 (atA (dD xs) n k)) := Lib.hid (hH.out.blk (updQ_same _ _ _))
      have e7 : ((k : Int)).tmod 7 = (k : Int) % 7 := by rw [Int.tmod_eq_emod_of_nonneg h0]
      have e8 : ((k : Int) + 1).tmod 7 = ((k : Int) + 1) % 7 := by rw [Int.tmod_eq_emod_of_nonneg (by omega)]
      generalize xs.getD k 0 = xk at *
      have ED := Lib.hid (dD_succ xs k)
      generalize dlN xs k = d at *
      have SO := Lib.hid (fun V (hV : NetQ w N (k : Int) R gO noC (updQ noQ T (.cells (atA (dD xs) n k) 3 (0, 0))) V) => send_O hV (show k < 300 by omega) hRl.out hd)
      unfold askA at SO
      go_wp2_with fail
      refine (ask_fun _ _ _ _).mono ?_
      rintro e w4 ⟨rfl, b4⟩
      have H4 := Lib.hid (hH.out.next b4)
      clear b4 hH KT d0 ed e7 e8
      unfold askA
      go_wp2_with fail
      refine (SO.out _ H4.out).mono ?_
      rintro e w5 ⟨rfl, h5⟩
      have H5 := Lib.hid h5
      clear h5 SO H4
      have K5 := H5.out.blk (updQ_same _ _ _)
      have z5 : w5.cell? ⟨T, k + 1, none⟩ = some (.int .i64 (if k + 1 = 0 ∨ k < k + 1 then 0 else dD xs (k + 1))) := (K5.cell (k + 1)).trans (atA_get (by omega))
      have q5 := K5.free (k + 1)
      have H6 : Hid (NetQ w N ((k + 1 : Nat) : Int) (Ag.ins ⟨(k : Int) + d, (k : Int) + 1, 0⟩ R) gO noC (updQ noQ T (.cells (atA (dD xs) n (k + 1)) 3 (0, 0))) (w5.setCell ⟨T, k + 1, none⟩ (.int .i64 ((k : Int) + (d : Int))))) := Lib.hid (by
        have h := H5.out.put (updQ_same _ _ _) hT.out (k + 1) (.int .i64 ((k : Int) + (d : Int)))
        rw [updQ_twice, ← ED.out, atA_set] at h
        rw [ED.out] at h
        exact h)
      have R6 : Hid ((Ag.ins ⟨(k : Int) + d, (k : Int) + 1, 0⟩ R).length = k + 1) := Lib.hid (by rw [(Ag.ins_perm _ _).length_eq, List.length_cons, hRl.out])
      have O6 : Hid (OInv (dD xs) (k + 1) (fun _ => false) (Ag.ins ⟨(k : Int) + d, (k : Int) + 1, 0⟩ R)) := Lib.hid (oinv_put hO.out ED.out.symm)
      have hk1 : k + 1 ≤ n := by omega
      clear K5 hO hRl H5
      go_wp2_with fail
      generalize w5.setCell ⟨T, k + 1, none⟩ (.int .i64 ((k : Int) + (d : Int))) = w6 at *
      clear z5 q5
      go_roundw
      case rel => exact ⟨k + 1, _, by go_num, hk1, R6, O6, H6⟩
      case measure => simp [intOf]; omega
    · obtain rfl : k = n := by omega
      have h1 : ¬ (k : Int) < (k : Int) := by omega
      have mk2 := make_cm k hn3
      have HT2 : Hid (T < wr.heap.size) := Lib.hid (hH.out.blk (updQ_same _ _ _)).lt
      have H3 : Hid (NetQ w N (k : Int) R gO noC (updQ (updQ noQ T (.cells (atA (dD xs) k k) 3 (0, 0))) wr.heap.size (.cells (cmA (fun _ => false) k) 4 (0, 0))) ((wr.alloc (.cells (cmA (fun _ => false) k) 4)).drew)) := Lib.hid ((hH.out.more (BN1 _ _) (Nat.le_refl _) (heap_alloc_new wr _)).next ((Below.refl _ _).drew))
      clear hH
      go_wp2_with fail
      go_region
      have hSw : Hid (w.heap.size ≤ wr.heap.size) := Lib.hid (Nat.le_trans hT.out (Nat.le_of_lt HT2.out))
      generalize (wr.alloc (.cells (cmA (fun _ => false) k) 4)).drew = w4 at *
      generalize wr.heap.size = S at *
      have hTS : T < S := HT2.out
      have H4 : Hid (NetQ w N (k : Int) R gO noC (Q2 T S (atA (dD xs) k k) (fun _ => false) k) w4) := H3
      have hRk : Hid (R.length ≤ k) := Lib.hid (Nat.le_of_eq hRl.out)
      clear H3 mk2 hRl
      go_wp2_with fail
      go_loopw [11, 13] (fun nw j wr => ∃ (jj : Nat) (t : Int) (f : Nat → Bool) (R : List Ag.It), nw = .int .i64 t ∧ j = .int .i64 (jj : Int) ∧ jj ≤ m ∧ 0 ≤ t ∧ t ≤ 20 * (jj : Int) ∧ Hid (R.length ≤ k) ∧ Hid (OInv (dD xs) k f R) ∧ Hid (NetQ w N (k : Int) R gO noC (Q2 T S (atA (dD xs) k k) f k) wr)) (fun _ j _ => m - (intOf j).toNat)
      case atStart => exact ⟨0, 0, _, R, rfl, rfl, Nat.zero_le _, by decide, by decide, hRk, hO, H4⟩
      case round =>
        obtain ⟨jj, t, f, R, rfl, rfl, hj, ht0, ht1, hRk, hO, hH⟩ := hrel
        clear H4
        by_cases hjm : jj < m
        · have j1 : (jj : Int) < (m : Int) := by omega
          have j0 : (0 : Int) ≤ (jj : Int) := by omega
          have hjL : jj < ys.length := by rw [HM.out]; exact hjm
          obtain ⟨g, qo, rfl, hg, d0⟩ := HY.out.below hH.out.bel jj hjL
          clear hg
          obtain ⟨sp, es, hs⟩ := rem_two ys[jj] 20 (by decide) (by decide)
          generalize ys[jj] = yj at *
          have DU := Lib.hid (fun V (hV : NetQ w N (k : Int) R gO noC (Q2 T S (atA (dD xs) k k) f k) V) => net_due hV (t + sp) (by have := hRk.out; omega) (by omega))
          have FA := Lib.hid (net_facts hH.out)
          go_wp2_with fail
          refine (DU.out _ hH.out).mono ?_
          rintro e w5 ⟨u, X, R', rfl, hX, hdue, hlate, h5, o5, _, hs5⟩
          subst hX
          rw [selA_noC] at o5
          obtain ⟨ua, uc, rfl⟩ := own_form o5
          have HSX := Lib.hid (List.pairwise_append.1 FA.out.1).1
          have HPX := Lib.hid FA.out.2
          have HDU := Lib.hid hdue
          have HLA := Lib.hid hlate
          have L5 : Hid (LI w wr N T S k (dD xs) X R' f f (.slice ua (X.map (fun x => gO x.i)).length uc) 0 (-1) w5) := Lib.hid ⟨h5, minv_start f X, o5, fun x hx => by
            obtain ⟨id, h1, h2, h3, h4⟩ := hO.out.sent x (List.mem_append_left _ (by simpa using hx))
            have := dD_bd xs (id := id) (by omega)
            omega⟩
          have hXk : Hid (X.length + R'.length ≤ k) := Lib.hid (by have := hRk.out; rw [List.length_append] at this; exact this)
          clear hdue hlate h5 o5 hs5 DU FA hH d0 es hRk
          have eL : (X.map (fun x => gO x.i)).length = X.length := List.length_map ..
          rw [eL] at L5
          rw [eL]
          generalize hxl : X.length = xl at *
          have HXL := Lib.hid hxl
          clear hxl eL
          have hx3 : xl ≤ 300 := by have := hXk.out; omega
          go_wp2_with fail
          obtain ⟨wo, rfl⟩ : ∃ wo : World, wo = wr := ⟨_, rfl⟩
          go_loopw [15, 16] (fun la i wr3 => ∃ (pp : Nat) (f' : Nat → Bool) (lv : Int), la = .int .i64 lv ∧ i = .int .i64 (pp : Int) ∧ pp ≤ xl ∧ Hid (LI w wo N T S k (dD xs) X R' f f' (.slice ua xl uc) pp lv wr3)) (fun _ i _ => xl - (intOf i).toNat)
          case atStart => exact ⟨0, f, -1, rfl, rfl, Nat.zero_le _, L5⟩
          case round =>
            obtain ⟨pp, f', lv, rfl, rfl, hpp, hL⟩ := hrel
            clear L5
            by_cases hpl : pp < xl
            · have p1 : (pp : Int) < (xl : Int) := by omega
              have p0 : (0 : Int) ≤ (pp : Int) := by omega
              have hpX : pp < X.length := by rw [HXL.out]; exact hpl
              obtain ⟨id, i1, i2, i3, i4⟩ := hO.out.sent X[pp] (List.mem_append_left _ (List.getElem_mem hpX))
              have hno := minv_no hL.out.m hpX i4 hO.out HPX.out i1 i2
              have hdt := HDU.out X[pp] (List.getElem_mem hpX)
              have hlv := hL.out.l X[pp] (by rw [List.drop_eq_getElem_cons hpX]; exact List.mem_cons_self ..)
              have hmL : pp < (X.map (fun x => gO x.i)).length := by rw [List.length_map]; exact hpX
              obtain ⟨gg, c9, hv, hcell⟩ := row_ask (v := .slice ua xl uc) (n := xl) (by rw [List.length_map, HXL.out]) (by have h := hL.out.o; rw [List.length_map, HXL.out] at h; exact h) hmL
              obtain ⟨rfl, rfl⟩ : ua = some ⟨gg, 0, none⟩ ∧ uc = c9 := by simp only [Value.slice.injEq] at hv; exact ⟨hv.1, hv.2.2⟩
              have y1 := hcell 1 (by decide)
              have y3 := hcell 3 (by decide)
              rw [List.getElem_map, i4] at y1 y3
              have z1 : wr.cell? ⟨gg, pp * 13 + 1, none⟩ = some (.int .i64 (((id : Int) - 1) % 7)) := y1
              have z3 : wr.cell? ⟨gg, pp * 13 + 3, none⟩ = some (.int .i64 (id : Int)) := y3
              clear y1 y3
              have KS := hL.out.s.blk (q2_S _ _ _ _ _)
              have KT := hL.out.s.blk (q2_T hTS _ _ _)
              have zS : wr.cell? ⟨S, id, none⟩ = some (.bool false) := by rw [KS.cell id, cmA_get (by omega), hno]
              have zT : wr.cell? ⟨T, id, none⟩ = some (.int .i64 (dD xs id)) := by rw [KT.cell id, atA_get (by omega), if_neg (by omega)]
              have qS := KS.free id
              have hbd := dD_bd xs (id := id) (by omega)
              rw [i3] at hdt hlv
              have L6 := Lib.hid (hL.out.step hSw.out hpX i4 HSX.out)
              rw [i3] at L6
              have n1 : ¬ (id : Int) < 1 := by omega
              have n2 : ¬ ((k : Int) + 1 ≤ (id : Int)) := by omega
              have n2' : (id : Int) < (k : Int) + 1 := by omega
              have n3 : ¬ (t + (sp : Int)) < dD xs id := by omega
              have n4 : ¬ dD xs id < lv := by omega
              have n5 : ((id : Int) - 1).tmod 7 = ((id : Int) - 1) % 7 := by rw [Int.tmod_eq_emod_of_nonneg (by omega)]
              have i0 : (0 : Int) ≤ (id : Int) := by omega
              have hpp1 : pp + 1 ≤ xl := by omega
              clear KS KT hv hcell hno hdt hlv hL hmL
              generalize dD xs id = D at *
              go_wp2_with fail
              generalize wr.setCell ⟨S, id, none⟩ (.bool true) = w7 at *
              clear zS zT qS z1 z3
              go_roundw
              case rel => exact ⟨pp + 1, _, D, rfl, by go_num, hpp1, L6⟩
              case measure => simp [intOf]; omega
            · obtain rfl : pp = xl := by omega
              have p1 : ¬ (pp : Int) < (pp : Int) := by omega
              have ON : Hid (OInv (dD xs) k f' R') := Lib.hid (oinv_next hO.out HPX.out (by have h := hL.out.m; rw [← HXL.out] at h; exact h))
              have HQ := Lib.hid hL.out.s
              have KS := Lib.hid (hL.out.s.blk (q2_S _ _ _ _ _))
              have KT := Lib.hid (hL.out.s.blk (q2_T hTS _ _ _))
              clear hL
              go_wp2_with fail
              go_loop [18] (fun i => ∃ id : Nat, i = .int .i64 (id : Int) ∧ 1 ≤ id ∧ id ≤ k + 1) (fun i => k + 1 - (intOf i).toNat)
              case atStart => exact ⟨1, rfl, Nat.le_refl _, by omega⟩
              case round =>
                obtain ⟨id, rfl, i1, i2⟩ := hrel
                by_cases hid : id < k + 1
                · have n1 : (id : Int) < (k : Int) + 1 := by omega
                  have i0 : (0 : Int) ≤ (id : Int) := by omega
                  have zT : wr.cell? ⟨T, id, none⟩ = some (.int .i64 (dD xs id)) := by rw [KT.out.cell id, atA_get (by omega), if_neg (by omega)]
                  have hid1 : id + 1 ≤ k + 1 := by omega
                  by_cases hf : f' id = true
                  · have zS : wr.cell? ⟨S, id, none⟩ = some (.bool true) := by rw [KS.out.cell id, cmA_get (by omega), hf]
                    clear hf
                    go_wp2_with fail
                    go_round
                    case rel => exact ⟨id + 1, by go_num, by omega, hid1⟩
                    case measure => simp [intOf]; omega
                  · have hf' : f' id = false := by simpa using hf
                    have zS : wr.cell? ⟨S, id, none⟩ = some (.bool false) := by rw [KS.out.cell id, cmA_get (by omega), hf']
                    have hlate : ¬ dD xs id ≤ t + (sp : Int) := by
                      obtain ⟨x, hx, e⟩ := (ON.out.here id i1 (by omega)).1 hf'
                      have h1 := HLA.out x hx
                      obtain ⟨id2, _, _, h4, h5⟩ := ON.out.sent x hx
                      have : id2 = id := by omega
                      subst this
                      rw [h4] at h1
                      omega
                    have hlB : decide (dD xs id ≤ t + (sp : Int)) = false := decide_eq_false hlate
                    clear hf hf'
                    generalize dD xs id = D at *
                    go_wp2_with fail
                    go_round
                    case rel => exact ⟨id + 1, by go_num, by omega, hid1⟩
                    case measure => simp [intOf]; omega
                · have n1 : ¬ (id : Int) < (k : Int) + 1 := by omega
                  have hjm1 : jj + 1 ≤ m := by omega
                  have hR1 : Hid (R'.length ≤ k) := Lib.hid (by have := hXk.out; omega)
                  have ht2 : t + (sp : Int) ≤ 20 * ((jj + 1 : Nat) : Int) := by omega
                  have ht3 : 0 ≤ t + (sp : Int) := by omega
                  go_wp2_with fail
                  go_roundw
                  case rel => exact ⟨jj + 1, t + sp, f', R', rfl, by go_num, hjm1, ht3, ht2, hR1, ON, HQ⟩
                  case measure => simp [intOf]; omega
        · obtain rfl : jj = m := by omega
          have j1 : ¬ (jj : Int) < (jj : Int) := by omega
          have BF := Lib.hid hH.out.bel
          clear hH hO hRk
          go_wp2_with fail
          go_ret
          exact ⟨rfl, BF.out⟩
end Go.Proofs.Ytkdaifcnlobhkaa
