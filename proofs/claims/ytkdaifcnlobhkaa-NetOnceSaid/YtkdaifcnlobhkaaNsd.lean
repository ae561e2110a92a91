/-
  net: New, Len, Send of an ask.
-/
import Derived.Test.YtkdaifcnlobhkaaNnt
namespace Go.Proofs.Ytkdaifcnlobhkaa
open Go.RowKit
def newA (A M : Nat) : Array Value := #[.pointer (some ⟨A, 0, none⟩), .map (some M),
  .bool false, .bool false, .bool false, .bool false, .bool false, .bool false, .bool false, .bool false, .bool false, .bool false, .bool false, .bool false, .bool false, .bool false,
  .bool false, .bool false, .bool false, .bool false, .bool false, .bool false, .bool false, .bool false, .bool false, .bool false, .bool false, .bool false, .bool false, .bool false,
  .bool false, .bool false, .bool false, .bool false, .bool false, .bool false, .bool false, .bool false, .bool false, .bool false, .bool false, .bool false, .bool false, .bool false,
  .bool false, .bool false, .bool false, .bool false, .bool false, .bool false, .bool false]
theorem newA_cut (A M f t : Nat) (hf : f < 7) (ht : t < 7) : (newA A M)[2 + f * 7 + t]? = some (.bool false) := by
  have h : ∀ k, k < 49 → (newA A M)[2 + k]? = some (.bool false) := by
    intro k hk
    unfold newA
    rcases k with _ | _ | _ | _ | _ | _ | _ | _ | _ | _ | _ | _ | _ | _ | _ | _ | _ | _ | _ | _ | _ | _ | _ | _ | _ | _ | _ | _ | _ | _ | _ | _ | _ | _ | _ | _ | _ | _ | _ | _ | _ | _ | _ | _ | _ | _ | _ | _ | _ | k
    all_goals first | rfl | omega
  rw [show 2 + f * 7 + t = 2 + (f * 7 + t) by omega]
  exact h _ (by omega)
set_option maxHeartbeats 2000000 in
set_option maxRecDepth 100000 in
theorem net_new (w0 w : World) (G : Int → Ask) (hb : Below w0.heap.size w0 w) : Calls Try.prog 7 #[] w fun e w' => ∃ N, e = .returned (.pointer (some ⟨N, 0, none⟩)) ∧ NetS w0 N 0 [] G (fun _ _ => false) w' := by
  have NA := Lib.hid (Ag.new_any w w0.heap.size)
  have hmm := @run_makeMap Try.prog
  have HB := Lib.hid hb
  clear hb
  go_enter Try.func7, Try.ntmps7
  go_wp2_with fail
  refine NA.out.mono ?_
  rintro e w1 ⟨rfl, b1, s1, a1⟩
  have B1 := Lib.hid b1
  have S1 := Lib.hid s1
  have A1 := Lib.hid a1
  clear b1 s1 a1
  go_wp2_with fail
  go_ret
  refine ⟨w1.heap.size + 1, rfl, ?_⟩
  show NetS w0 (w1.heap.size + 1) 0 [] G (fun _ _ => false) ((w1.alloc (.map #[] 0)).alloc (.cells (newA w.heap.size w1.heap.size) 62))
  have bA := BN1 w1 (.map #[] 0)
  have bB := BN1 (w1.alloc (.map #[] 0)) (.cells (newA w.heap.size w1.heap.size) 62)
  have bC : Below w1.heap.size w1 ((w1.alloc (.map #[] 0)).alloc (.cells (newA w.heap.size w1.heap.size) 62)) := bA.trans (bB.mono bA.size)
  have e1 : (w1.alloc (.map #[] 0)).heap.size = w1.heap.size + 1 := by simp
  have hk : Blk ((w1.alloc (.map #[] 0)).alloc (.cells (newA w.heap.size w1.heap.size) 62)) (w1.heap.size + 1) 62 (newA w.heap.size w1.heap.size) := by rw [← e1]; exact Blk.new _ _ _
  have hs := S1.out
  have h0 := HB.out.size
  exact ⟨w.heap.size, none, w1.heap.size, _, _, ⟨hk, rfl, rfl, fun f t hf ht => newA_cut _ _ f t hf ht, A1.out.below bC, (Lts.made w1).next bB,
    by omega, h0, by omega, by omega, by omega, by omega, by simp, by simp, HB.out.trans ((B1.out.trans (bC.mono B1.out.size)).mono h0), Int.le_refl _⟩, fun x hx => by simp at hx, offQ_no _ _ _ _ _⟩
theorem net_len {w0 w : World} {N : Nat} {Z : Int} {R : List Ag.It} {G : Int → Ask} {C : Int → Int → Bool} {Q : Nat → Option Obj} (h : NetQ w0 N Z R G C Q w) : Calls Try.prog 11 #[.pointer (some ⟨N, 0, none⟩)] w fun e w' => e = .returned (.int .i64 R.length) ∧ w = w' := by
  obtain ⟨A, r, M, F, cs, h, _, _⟩ := h
  have c0 := h.c0
  have L := Lib.hid (Ag.len_any w _ A Z r R h.a)
  clear h
  go_enter Try.func11, Try.ntmps11
  go_wp2_with fail
  refine L.out.mono ?_
  rintro e w1 ⟨rfl, rfl⟩
  go_wp2_with fail
  go_ret
  exact ⟨rfl, rfl⟩
theorem bel_drewN (w : World) (n : Nat) : Below w.heap.size w (w.drewN n) := ⟨rfl, rfl, rfl, Nat.le_refl _, fun _ _ => rfl⟩
theorem boxed (w : World) (f t m : Int) : ∃ W, W = w.alloc (.cells (askA f t m) 35) ∧ Below w.heap.size w W ∧ Blk W w.heap.size 35 (askA f t m) := ⟨_, rfl, BN1 _ _, Blk.new _ _ _⟩
/-- from one to itself nothing is sent -/
theorem send_same {w0 w : World} {N : Nat} {Z : Int} {R : List Ag.It} {G : Int → Ask} {C : Int → Int → Bool} {Q : Nat → Option Obj} (h : NetQ w0 N Z R G C Q w) (now d f m : Int) (hf : 0 ≤ f ∧ f < 7) :
    Calls Try.prog 12 #[.pointer (some ⟨N, 0, none⟩), .int .i64 now, .agg (askA f f m), .int .i64 d] w fun e w' => e = .returned (.tuple #[.int .i64 0, .int .i64 1]) ∧ NetQ w0 N Z R G C Q w' := by
  obtain ⟨W, hW, bW, kW⟩ := boxed w f f m
  have WR := Lib.hid (fun V => write_same f m hf V)
  have HS := Lib.hid (h.next bW)
  have KW := Lib.hid kW
  have HW := Lib.hid hW
  clear h hW bW kW
  unfold askA at HW WR
  unfold askA
  go_enter Try.func12, Try.ntmps12
  go_wp2_with (first | rw [← HW.out] | (refine load_msg KW.out rfl rfl _ rfl rfl ?_))
  refine (WR.out _).mono ?_
  rintro e w1 ⟨rfl, b1⟩
  have H1 := Lib.hid (HS.out.next b1)
  clear b1 HS HW KW WR
  go_wp2_with fail
  go_ret2
  exact ⟨rfl, H1.out⟩
/-- what Send of an ask does, as far as the test whether they are cut off -/
theorem fNat {f : Int} (hf : 0 ≤ f ∧ f < 7) : ∃ n : Nat, f = (n : Int) ∧ n < 7 := ⟨f.toNat, by omega, by omega⟩
set_option maxHeartbeats 4000000 in
set_option maxRecDepth 100000 in
/-- from who is cut off to the other one nothing is sent -/
theorem send_cut {w0 w : World} {N : Nat} {Z : Int} {R : List Ag.It} {G : Int → Ask} {C : Int → Int → Bool} {Q : Nat → Option Obj} (h : NetQ w0 N Z R G C Q w) (now d : Int) (a : Ask) (ha : OkA a) (hn : 0 ≤ now ∧ now ≤ 549755813888) (hd : 0 ≤ d ∧ d ≤ 549755813888) (hC : C a.f a.t = true) :
    Calls Try.prog 12 #[.pointer (some ⟨N, 0, none⟩), .int .i64 now, .agg (askA a.f a.t a.m), .int .i64 d] w fun e w' => e = .returned (.tuple #[.int .i64 0, .int .i64 0]) ∧ NetQ w0 N Z R G C Q w' := by
  obtain ⟨f, t, m⟩ := a
  obtain ⟨hf, ht, hm, hne⟩ := ha
  simp only at *
  obtain ⟨fn, rfl, hfn⟩ := fNat hf
  obtain ⟨tn, rfl, htn⟩ := fNat ht
  obtain ⟨W, hW, bW, kW⟩ := boxed w fn tn m
  have WR := Lib.hid (fun V => write_ask fn tn m hf ht hm hne V)
  have HS := Lib.hid (h.next bW)
  have KW := Lib.hid kW
  have HW := Lib.hid hW
  have TN := Lib.hid (fun V => (time_any now V).mono (R' := fun e w' => e = Ending.returned (.bool true) ∧ V = w') (fun e w' h => ⟨by rw [h.1, show idxB now = true by unfold idxB; simp [hn.1, hn.2]], h.2⟩))
  have TD := Lib.hid (fun V => (time_any d V).mono (R' := fun e w' => e = Ending.returned (.bool true) ∧ V = w') (fun e w' h => ⟨by rw [h.1, show idxB d = true by unfold idxB; simp [hd.1, hd.2]], h.2⟩))
  have HC := Lib.hid hC
  have HM := Lib.hid hm
  have HNE := Lib.hid hne
  clear h hW bW kW hn hd hm hne hC
  have HOK := Lib.hid (show OkA ⟨fn, tn, m⟩ from ⟨hf, ht, HM.out, HNE.out⟩)
  obtain ⟨S, hS⟩ : ∃ S, S = askS fn tn m := ⟨_, rfl⟩
  have HSS := Lib.hid hS
  rw [← hS] at WR
  clear hS HM HNE
  unfold askA at HW WR
  unfold askA
  go_enter Try.func12, Try.ntmps12
  go_wp2_with (first | rw [← HW.out] | (refine load_msg KW.out rfl rfl _ rfl rfl ?_))
  refine (WR.out _).mono ?_
  rintro e w1 ⟨rfl, b1⟩
  have H1 := Lib.hid (HS.out.next b1)
  have K1 := Lib.hid (KW.out.next b1)
  clear b1 HS HW KW WR
  go_wp2_with fail
  refine (TN.out _).mono ?_
  rintro e w2 ⟨rfl, rfl⟩
  go_wp2_with fail
  refine (TD.out _).mono ?_
  rintro e w2 ⟨rfl, rfl⟩
  obtain ⟨A, r, M, F, cs, hP, hG, hQ⟩ := H1.out
  have HG := Lib.hid hG
  have HQ := Lib.hid hQ
  clear hG hQ
  have y1 : w1.cell? ⟨w.heap.size, 1, none⟩ = some (.int .i64 fn) := K1.out.cell 1
  have y2 : w1.cell? ⟨w.heap.size, 2, none⟩ = some (.int .i64 tn) := K1.out.cell 2
  have cc := hP.cc fn tn hfn htn
  rw [HC.out] at cc
  have i1 : (0 : Int) ≤ (fn : Int) := by omega
  have i2 : (fn : Int) < 7 := by omega
  have i3 : (0 : Int) ≤ (tn : Int) := by omega
  have i4 : (tn : Int) < 7 := by omega
  clear hP
  go_wp2_with fail
  go_quiet (fail)
  go_wp2_with fail
  go_ret2
  exact ⟨rfl, H1.out.next (bel_drewN _ _)⟩
set_option maxHeartbeats 4000000 in
set_option maxRecDepth 100000 in
/-- where too many are under way no further one is sent -/
theorem send_full {w0 w : World} {N : Nat} {Z : Int} {R : List Ag.It} {G : Int → Ask} {C : Int → Int → Bool} {Q : Nat → Option Obj} (h : NetQ w0 N Z R G C Q w) (now d : Int) (a : Ask) (ha : OkA a) (hn : 0 ≤ now ∧ now ≤ 549755813888) (hd : 0 ≤ d ∧ d ≤ 549755813888) (hC : C a.f a.t = false) (hR : R.length = 4096) :
    Calls Try.prog 12 #[.pointer (some ⟨N, 0, none⟩), .int .i64 now, .agg (askA a.f a.t a.m), .int .i64 d] w fun e w' => e = .returned (.tuple #[.int .i64 0, .int .i64 7]) ∧ NetQ w0 N Z R G C Q w' := by
  obtain ⟨f, t, m⟩ := a
  obtain ⟨hf, ht, hm, hne⟩ := ha
  simp only at *
  obtain ⟨fn, rfl, hfn⟩ := fNat hf
  obtain ⟨tn, rfl, htn⟩ := fNat ht
  obtain ⟨W, hW, bW, kW⟩ := boxed w fn tn m
  have WR := Lib.hid (fun V => write_ask fn tn m hf ht hm hne V)
  have HS := Lib.hid (h.next bW)
  have KW := Lib.hid kW
  have HW := Lib.hid hW
  have TN := Lib.hid (fun V => (time_any now V).mono (R' := fun e w' => e = Ending.returned (.bool true) ∧ V = w') (fun e w' h => ⟨by rw [h.1, show idxB now = true by unfold idxB; simp [hn.1, hn.2]], h.2⟩))
  have TD := Lib.hid (fun V => (time_any d V).mono (R' := fun e w' => e = Ending.returned (.bool true) ∧ V = w') (fun e w' h => ⟨by rw [h.1, show idxB d = true by unfold idxB; simp [hd.1, hd.2]], h.2⟩))
  have HC := Lib.hid hC
  have HR := Lib.hid hR
  clear hR
  have HM := Lib.hid hm
  have HNE := Lib.hid hne
  clear h hW bW kW hn hd hm hne hC
  have HOK := Lib.hid (show OkA ⟨fn, tn, m⟩ from ⟨hf, ht, HM.out, HNE.out⟩)
  obtain ⟨S, hS⟩ : ∃ S, S = askS fn tn m := ⟨_, rfl⟩
  have HSS := Lib.hid hS
  rw [← hS] at WR
  clear hS HM HNE
  unfold askA at HW WR
  unfold askA
  go_enter Try.func12, Try.ntmps12
  go_wp2_with (first | rw [← HW.out] | (refine load_msg KW.out rfl rfl _ rfl rfl ?_))
  refine (WR.out _).mono ?_
  rintro e w1 ⟨rfl, b1⟩
  have H1 := Lib.hid (HS.out.next b1)
  have K1 := Lib.hid (KW.out.next b1)
  clear b1 HS HW KW WR
  go_wp2_with fail
  refine (TN.out _).mono ?_
  rintro e w2 ⟨rfl, rfl⟩
  go_wp2_with fail
  refine (TD.out _).mono ?_
  rintro e w2 ⟨rfl, rfl⟩
  obtain ⟨A, r, M, F, cs, hP, hG, hQ⟩ := H1.out
  have HG := Lib.hid hG
  have HQ := Lib.hid hQ
  clear hG hQ
  have y1 : w1.cell? ⟨w.heap.size, 1, none⟩ = some (.int .i64 fn) := K1.out.cell 1
  have y2 : w1.cell? ⟨w.heap.size, 2, none⟩ = some (.int .i64 tn) := K1.out.cell 2
  have cc := hP.cc fn tn hfn htn
  rw [HC.out] at cc
  have i1 : (0 : Int) ≤ (fn : Int) := by omega
  have i2 : (fn : Int) < 7 := by omega
  have i3 : (0 : Int) ≤ (tn : Int) := by omega
  have i4 : (tn : Int) < 7 := by omega
  have c0 := hP.c0
  have HP := Lib.hid hP
  clear hP
  go_wp2_with fail
  go_quiet (fail)
  go_wp2_with fail
  refine (Ag.add_full _ _ A Z r R _ _ (HP.out.next (bel_drewN w1 _)).a HR.out).mono ?_
  rintro e w3 ⟨rfl, rfl⟩
  go_wp2_with fail
  go_ret2
  exact ⟨rfl, H1.out.next (bel_drewN _ _)⟩
theorem let_put {w : World} {B A : Nat} {Z : Int} {r : Option Nat} {R : List Ag.It} {G : Int → Ask} {F : Lf} {at_ : Int} {a : Ask} {S : Tx} (h : LetG R G F) (hA : Ag.Agd w B A Z r R) (hS : S = askS a.f a.t a.m) (ha : OkA a) :
    LetG (Ag.ins ⟨at_, Z + 1, 0⟩ R) (fun i => if i = Z + 1 then a else G i) (upd F (Z + 1) (some S)) := by
  obtain ⟨_, _, _, _, _, _, _, hi, _⟩ := hA
  intro x hx
  rcases List.mem_cons.1 ((Ag.ins_perm _ _).mem_iff.1 hx) with rfl | hx
  · simp only [if_true]
    rw [upd_same, hS]
    exact ⟨rfl, ha⟩
  · have := (hi x hx).2
    have hne : x.i ≠ Z + 1 := by omega
    simp only [if_neg hne]
    rw [upd_other _ _ hne]
    exact h x hx
/-- what Send of an ask leaves -/
def SentN (w0 : World) (N : Nat) (Z : Int) (R : List Ag.It) (G : Int → Ask) (C : Int → Int → Bool) (Q : Nat → Option Obj) (now d : Int) (a : Ask) (e : Ending) (w' : World) : Prop :=
  e = .returned (.tuple #[.int .i64 (Z + 1), .int .i64 0]) ∧ NetQ w0 N (Z + 1) (Ag.ins ⟨now + d, Z + 1, 0⟩ R) (fun i => if i = Z + 1 then a else G i) C Q w'
set_option maxHeartbeats 4000000 in
set_option maxRecDepth 100000 in
/-- an ask is sent -/
theorem send_any {w0 w : World} {N : Nat} {Z : Int} {R : List Ag.It} {G : Int → Ask} {C : Int → Int → Bool} {Q : Nat → Option Obj} (h : NetQ w0 N Z R G C Q w) (now d : Int) (a : Ask) (ha : OkA a) (hn : 0 ≤ now ∧ now ≤ 549755813888) (hd : 0 ≤ d ∧ d ≤ 549755813888) (hC : C a.f a.t = false) (hR : R.length < 4096) (hZ : Z ≤ 100000) :
    Calls Try.prog 12 #[.pointer (some ⟨N, 0, none⟩), .int .i64 now, .agg (askA a.f a.t a.m), .int .i64 d] w (SentN w0 N Z R G C Q now d a) := by
  obtain ⟨f, t, m⟩ := a
  obtain ⟨hf, ht, hm, hne⟩ := ha
  simp only at *
  obtain ⟨fn, rfl, hfn⟩ := fNat hf
  obtain ⟨tn, rfl, htn⟩ := fNat ht
  obtain ⟨W, hW, bW, kW⟩ := boxed w fn tn m
  have WR := Lib.hid (fun V => write_ask fn tn m hf ht hm hne V)
  have HS := Lib.hid (h.next bW)
  have KW := Lib.hid kW
  have HW := Lib.hid hW
  have TN := Lib.hid (fun V => (time_any now V).mono (R' := fun e w' => e = Ending.returned (.bool true) ∧ V = w') (fun e w' h => ⟨by rw [h.1, show idxB now = true by unfold idxB; simp [hn.1, hn.2]], h.2⟩))
  have TD := Lib.hid (fun V => (time_any d V).mono (R' := fun e w' => e = Ending.returned (.bool true) ∧ V = w') (fun e w' h => ⟨by rw [h.1, show idxB d = true by unfold idxB; simp [hd.1, hd.2]], h.2⟩))
  have HC := Lib.hid hC
  have HR := Lib.hid hR
  have HZ := Lib.hid hZ
  clear hR hZ
  have HM := Lib.hid hm
  have HNE := Lib.hid hne
  clear h hW bW kW hm hne hC
  have HOK := Lib.hid (show OkA ⟨fn, tn, m⟩ from ⟨hf, ht, HM.out, HNE.out⟩)
  obtain ⟨S, hS⟩ : ∃ S, S = askS fn tn m := ⟨_, rfl⟩
  have HSS := Lib.hid hS
  rw [← hS] at WR
  clear hS HM HNE
  unfold askA at HW WR
  unfold askA
  go_enter Try.func12, Try.ntmps12
  go_wp2_with (first | rw [← HW.out] | (refine load_msg KW.out rfl rfl _ rfl rfl ?_))
  refine (WR.out _).mono ?_
  rintro e w1 ⟨rfl, b1⟩
  have H1 := Lib.hid (HS.out.next b1)
  have K1 := Lib.hid (KW.out.next b1)
  clear b1 HS HW KW WR
  go_wp2_with fail
  refine (TN.out _).mono ?_
  rintro e w2 ⟨rfl, rfl⟩
  go_wp2_with fail
  refine (TD.out _).mono ?_
  rintro e w2 ⟨rfl, rfl⟩
  obtain ⟨A, r, M, F, cs, hP, hG, hQ⟩ := H1.out
  have HG := Lib.hid hG
  have HQ := Lib.hid hQ
  clear hG hQ
  have y1 : w1.cell? ⟨w.heap.size, 1, none⟩ = some (.int .i64 fn) := K1.out.cell 1
  have y2 : w1.cell? ⟨w.heap.size, 2, none⟩ = some (.int .i64 tn) := K1.out.cell 2
  have cc := hP.cc fn tn hfn htn
  rw [HC.out] at cc
  have i1 : (0 : Int) ≤ (fn : Int) := by omega
  have i2 : (fn : Int) < 7 := by omega
  have i3 : (0 : Int) ≤ (tn : Int) := by omega
  have i4 : (tn : Int) < 7 := by omega
  have c0 := hP.c0
  have HP := Lib.hid hP
  clear hP
  go_wp2_with fail
  go_quiet (fail)
  go_wp2_with fail
  refine (Ag.add_any _ w0.heap.size A Z r R _ _ (HP.out.next (bel_drewN w1 _)).a HR.out HP.out.z (by have := HZ.out; omega) (HP.out.next (bel_drewN w1 _)).b.size).mono ?_
  rintro e w3 ⟨r', rfl, a3, t3⟩
  have hP3 := (HP.out.next (bel_drewN w1 nq)).tch t3 a3 (by omega)
  have hnd : now + d ≤ 1099511627776 := by omega
  have hZ := HZ.out
  have z0 := HP.out.z
  obtain ⟨w4, hrun, l4, f4, _⟩ := ((HP.out.next (bel_drewN w1 nq)).tchl t3).store (s := Z + 1) (by unfold I64; omega) (by unfold maxLen; omega) S
  have c1 := hP3.c1
  have hin := (HP.out.a)
  have FIN := Lib.hid (show NetQ w0 N (Z + 1) (Ag.ins ⟨now + d, Z + 1, 0⟩ R) (fun i => if i = Z + 1 then ⟨fn, tn, m⟩ else G i) C Q w4 from
    ⟨A, r', M, _, cs, hP3.lts' f4 l4 z0, let_put HG.out hin (by rw [← HSS.out]) HOK.out, ((HQ.out.next (bel_drewN w1 nq)).tch t3).map f4⟩)
  clear hP3 t3 a3 l4 f4 hin HP H1 K1 cc y1 y2 c0
  unfold letV at hrun
  go_wp2_with fail
  go_ret2
  exact ⟨rfl, FIN.out⟩
end Go.Proofs.Ytkdaifcnlobhkaa
