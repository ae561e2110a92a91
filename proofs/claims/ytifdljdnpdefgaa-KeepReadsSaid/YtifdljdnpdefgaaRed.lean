/-
  WHICH TRACK A TEXT SAYS: Read.
-/
import Derived.Test.YtifdljdnpdefgaaSvr
namespace Go.Proofs.Ytifdljdnpdefgaa
open Go.RowKit
/-- a track's block that is new: empty so far -/
structure KT (B b : Nat) (w : World) (X : Nat) : Prop where
  k : Blk w X 24 #[.int .i64 0, .int .i64 0, .int .i64 0, .slice none 0 0]
  n : b < X
  g : B ≤ X
theorem KT.new {B b : Nat} (w : World) {s : ByteArray} {e : Int} (h : Bt.TapeAt w b s e) (hB : B ≤ w.heap.size) : KT B b (w.alloc (.cells #[.int .i64 0, .int .i64 0, .int .i64 0, .slice none 0 0] 24)) w.heap.size := ⟨Blk.new w 24 _, h.lt, hB⟩
theorem KT.step {B b X : Nat} {w0 w w' : World} (h : KT B b w0 X) (g : w.grownBy w' (some b)) (e : w.heap = w0.heap) : KT B b w' X := ⟨Blk.fr (w := w) (by unfold Blk; rw [e]; exact h.k) (Fr.grown g) (by have := h.n; omega), h.n, h.g⟩
theorem KT.fresh {B b : Nat} {w w' : World} {s : ByteArray} {e : Int} (g : (w.alloc (.cells #[.int .i64 0, .int .i64 0, .int .i64 0, .slice none 0 0] 24)).grownBy w' (some b)) (h : Bt.TapeAt w b s e) (hB : B ≤ w.heap.size) : KT B b w' w.heap.size := (KT.new w h hB).step g rfl
theorem KT.newd {B b : Nat} (w : World) {s : ByteArray} {e : Int} (h : Bt.TapeAt w b s e) (hB : B ≤ w.heap.size) : KT B b (w.drew.alloc (.cells #[.int .i64 0, .int .i64 0, .int .i64 0, .slice none 0 0] 24)) w.heap.size := KT.new w.drew h hB
section
variable {B b X : Nat} {w : World}
theorem KT.z0 (h : KT B b w X) : w.cell? ⟨X, 0, none⟩ = some (.int .i64 0) := h.k.cell 0
theorem KT.z1 (h : KT B b w X) : w.cell? ⟨X, 1, none⟩ = some (.int .i64 0) := h.k.cell 1
theorem KT.z2 (h : KT B b w X) : w.cell? ⟨X, 2, none⟩ = some (.int .i64 0) := h.k.cell 2
theorem KT.z3 (h : KT B b w X) : w.cell? ⟨X, 3, none⟩ = some (.slice none 0 0) := h.k.cell 3
theorem KT.zf (h : KT B b w X) (i : Nat) : w.frozen? ⟨X, i, none⟩ = false := h.k.free i
end
/-- behind the track's three numbers -/
structure Ht (w wx : World) (Y T b X : Nat) (c0 c1 c2 : Int) (t : Tp) (v : Value) : Prop where
  x : Blk wx X 24 #[.int .i64 c0, .int .i64 c1, .int .i64 c2, v]
  y : Blk wx T 52 #[.pointer (some ⟨b, 0, none⟩)]
  r : Blk wx Y 24 #[.int .i64 0, .int .i64 0, .int .i64 0, .slice none 0 0]
  t : Bt.TapeAt wx b t.1 t.2
  f : Below w.heap.size w wx
  h1 : T < X
  h2 : b < T
  h3 : Y < b
  h4 : w.heap.size ≤ Y
theorem Ht.fr {w wx w' : World} {Y T b X : Nat} {c0 c1 c2 : Int} {t t' : Tp} {v : Value} (h : Ht w wx Y T b X c0 c1 c2 t v) (f : Fr wx w' (fun q => q = b)) (ht : Bt.TapeAt w' b t'.1 t'.2) : Ht w w' Y T b X c0 c1 c2 t' v := by
  have := h.h1
  have := h.h2
  have := h.h3
  have := h.h4
  exact ⟨h.x.fr f (by omega), h.y.fr f (by omega), h.r.fr f (by omega), ht, h.f.trans (f.below (fun q e => by omega) h.f.size), h.h1, h.h2, h.h3, h.h4⟩
/-- what the three numbers' block lies on -/
structure Hc (w W w4 : World) (Y T b : Nat) (t : Tp) : Prop where
  y : Blk W T 52 #[.pointer (some ⟨b, 0, none⟩)]
  r : Blk W Y 24 #[.int .i64 0, .int .i64 0, .int .i64 0, .slice none 0 0]
  fw : Below w.heap.size w W
  f : Fr W w4 (fun q => q = b)
  t : Bt.TapeAt w4 b t.1 t.2
  z : T + 1 ≤ W.heap.size
  h2 : b < T
  h3 : Y < b
  h4 : w.heap.size ≤ Y
theorem ht_new {w W w4 : World} {Y T b : Nat} {t : Tp} (h : Hc w W w4 Y T b t) (c0 c1 c2 : Int) : Ht w (w4.alloc (.cells #[.int .i64 c0, .int .i64 c1, .int .i64 c2, .slice none 0 0] 24)) Y T b w4.heap.size c0 c1 c2 t (.slice none 0 0) := by
  have fa := h.f.al (.cells #[.int .i64 c0, .int .i64 c1, .int .i64 c2, .slice none 0 0] 24)
  have := h.h2
  have := h.h3
  have := h.h4
  have := h.f.size
  have := h.z
  exact ⟨Blk.new w4 24 _, h.y.fr fa (by omega), h.r.fr fa (by omega), h.t.al2 _, h.fw.trans (fa.below (fun q e => by omega) h.fw.size), by omega, h.h2, h.h3, h.h4⟩
theorem ht_set {w W w4 : World} {Y T b X : Nat} {t : Tp} (h : Hc w W w4 Y T b t) (k : KT W.heap.size b w4 X) (c0 c1 c2 : Int) : Ht w ((((w4.setCell ⟨X, 0, none⟩ (.int .i64 c0)).setCell ⟨X, 1, none⟩ (.int .i64 c1)).setCell ⟨X, 2, none⟩ (.int .i64 c2)).setCell ⟨X, 3, none⟩ (.slice none 0 0)) Y T b X c0 c1 c2 t (.slice none 0 0) := by
  have := h.h2
  have := h.h3
  have := h.h4
  have := h.z
  have := k.g
  have s : ∀ {v : World} (i : Nat) (u : Value), Fr W v (fun q => q = b) → Fr W (v.setCell ⟨X, i, none⟩ u) (fun q => q = b) := fun i u f => f.set X i u (.inr k.g)
  have fa := s 3 (.slice none 0 0) (s 2 (.int .i64 c2) (s 1 (.int .i64 c1) (s 0 (.int .i64 c0) h.f)))
  have st : ∀ {v : World} (i : Nat) (u : Value), Bt.TapeAt v b t.1 t.2 → Bt.TapeAt (v.setCell ⟨X, i, none⟩ u) b t.1 t.2 := fun i u f => f.fr2 (fr_set _ X i u) (by omega)
  exact ⟨(((k.k.set 0 _).set 1 _).set 2 _).set 3 _, h.y.fr fa (by omega), h.r.fr fa (by omega), st 3 _ (st 2 _ (st 1 _ (st 0 _ h.t))), h.fw.trans (fa.below (fun q e => by omega) h.fw.size), by omega, h.h2, h.h3, h.h4⟩
def rdTr (s : ByteArray) : Tr := (pRead s).getD (0, 0, 0, [])
def rdE (s : ByteArray) : Int := if (pRead s).isSome = true then 0 else 3
/-- what Read answers -/
def Readd (w : World) (s : ByteArray) (e : Ending) (w' : World) : Prop := ∃ a cp, e = .returned (.tuple #[trackV (rdTr s).1 (rdTr s).2.1 (rdTr s).2.2.1 (.slice a (rdTr s).2.2.2.length cp), .int .i64 (rdE s)]) ∧ Rns w' a (rdTr s).2.2.2 ∧ Below w.heap.size w w'
theorem pRun_P (t : Tp) : (pRun t).1.P.length ≤ 16 := by
  unfold pRun
  split
  · exact Nat.zero_le _
  · simp only [List.length_cons, pIter_len]; omega
theorem pRuns_P (k : Nat) (t : Tp) : ∀ r ∈ (pRuns k t).1, r.P.length ≤ 140737488355328 := by
  induction k with
  | zero => intro r hr; simp [pRuns] at hr
  | succ k ih =>
    intro r hr
    have hr' : r ∈ (pRuns k t).1 ++ [(pRun (pRuns k t).2).1] := hr
    rcases List.mem_append.1 hr' with h | h
    · exact ih r h
    · simp only [List.mem_singleton] at h
      subst h
      have := pRun_P (pRuns k t).2
      omega
theorem srm_rns {w w7 : World} {tb b : Nat} {M : List RC} {t : Tp} {v : Value} {va : Option Addr} {vc : Nat} (h : Srm w w7 tb b M t v) (hv : v = .slice va M.length vc) : Rns w7 va (M.map RC.r) := by
  refine rns_of ?_ h.p.pks
  have ho := h.own
  rcases ho.2 with ⟨e, e0⟩ | ⟨g, cap, cur, e, _⟩
  · intro p hp; omega
  · subst hv
    cases e
    exact rcs_own rfl ho
theorem Srm.keep {w w7 w8 : World} {tb b : Nat} {M : List RC} {t : Tp} {v : Value} {P : Nat → Prop} (h : Srm w w7 tb b M t v) (f : Fr w7 w8 P) (hP : ∀ q, P q → q < w.heap.size) {va : Option Addr} {vc : Nat} (hv : v = .slice va M.length vc) : Rns w8 va (M.map RC.r) := by
  have ho : w8.ownsRow w.heap.size 46 5 v M.length (cellsR M) := Fr.own h.own f hP
  have hp : Pks w8 M := PksB.pks (fun y hy => ⟨(h.p y hy).1.keep (fun g cur hg hh => f.block g (Array.getElem?_eq_some_iff.1 hh).1 (fun e => by have := hP g e; omega)), (h.p y hy).2⟩ : PksB w8 w.heap.size M)
  refine rns_of ?_ hp
  rcases ho.2 with ⟨e, e0⟩ | ⟨g, cap, cur, e, _⟩
  · intro p hp; omega
  · subst hv
    cases e
    exact rcs_own rfl ho
theorem ht_store {w w7 : World} {Y T b X : Nat} {c0 c1 c2 : Int} {t : Tp} {u : Value} (h : Ht w w7 Y T b X c0 c1 c2 t u) (v : Value) : Ht w (w7.setCell ⟨X, 3, none⟩ v) Y T b X c0 c1 c2 t v := by
  have := h.h1
  have := h.h2
  have := h.h3
  have := h.h4
  exact ⟨h.x.set 3 _, h.y.fr (fr_set w7 X 3 v) (by omega), h.r.fr (fr_set w7 X 3 v) (by omega), h.t.fr2 (fr_set w7 X 3 v) (by omega), h.f.trans ((fr_set w7 X 3 v).below (fun q e => by omega) h.f.size), h.h1, h.h2, h.h3, h.h4⟩
theorem rd_no {s : ByteArray} (h : mayT (pAll s).1 (pAll s).2 = false) : rdTr s = (0, 0, 0, []) ∧ rdE s = 3 := by
  unfold rdTr rdE pRead
  rw [h]
  exact ⟨rfl, rfl⟩
theorem rd_ok {s : ByteArray} (h : mayT (pAll s).1 (pAll s).2 = true) : rdTr s = (pAll s).1 ∧ rdE s = 0 := by
  unfold rdTr rdE pRead
  rw [h]
  exact ⟨rfl, rfl⟩
set_option maxHeartbeats 8000000 in
set_option maxRecDepth 100000 in
theorem read_any (s : ByteArray) (hs : s.size ≤ 281474976710656) (w : World) : Calls Try.prog 11 #[.string s] w (Readd w s) := by
  have hs1 := Nat.le_trans (pn_le (s, 0)) hs
  have hs2 := Nat.le_trans (pn_le (pn (s, 0)).2) hs1
  have hs3 := Nat.le_trans (pn_le (pn (pn (s, 0)).2).2) hs2
  have hs4 := Nat.le_trans (pn_le (pn (pn (pn (s, 0)).2).2).2) hs3
  have l4 := pn_lt (pn (pn (pn (s, 0)).2).2).2
  have N1 := Lib.hid (fun W b (hT : Bt.TapeAt W b s 0) => num_any (t := (s, 0)) hT hs)
  have N2 := Lib.hid (fun W b (hT : Bt.TapeAt W b (pn (s, 0)).2.1 (pn (s, 0)).2.2) => num_any hT hs1)
  have N3 := Lib.hid (fun W b (hT : Bt.TapeAt W b (pn (pn (s, 0)).2).2.1 (pn (pn (s, 0)).2).2.2) => num_any hT hs2)
  have N4 := Lib.hid (fun W b (hT : Bt.TapeAt W b (pn (pn (pn (s, 0)).2).2).2.1 (pn (pn (pn (s, 0)).2).2).2.2) => num_any hT hs3)
  have HA := Lib.hid (show pAll s = ((wrap64 (pn (s, 0)).1, wrap64 (pn (pn (s, 0)).2).1, wrap64 (pn (pn (pn (s, 0)).2).2).1, (pRuns (min (pn (pn (pn (pn (s, 0)).2).2).2).1 65) (pn (pn (pn (pn (s, 0)).2).2).2).2).1),
    (pRuns (min (pn (pn (pn (pn (s, 0)).2).2).2).1 65) (pn (pn (pn (pn (s, 0)).2).2).2).2).2) from rfl)
  have AT := Lib.hid (Bt.at_any s (w.alloc (.cells #[.int .i64 0, .int .i64 0, .int .i64 0, .slice none 0 0] 24)) hs)
  generalize pn (pn (pn (pn (s, 0)).2).2).2 = y4 at *
  generalize pn (pn (pn (s, 0)).2).2 = y3 at *
  generalize pn (pn (s, 0)).2 = y2 at *
  generalize pn (s, 0) = y1 at *
  obtain ⟨n1, s1, e1⟩ := y1
  obtain ⟨n2, s2, e2⟩ := y2
  obtain ⟨n3, s3, e3⟩ := y3
  obtain ⟨n4, s4, e4⟩ := y4
  simp only at N1 N2 N3 N4 l4 hs4 HA
  clear hs1 hs2 hs3
  have KY0 := Lib.hid (Blk.new w 24 #[.int .i64 0, .int .i64 0, .int .i64 0, .slice none 0 0])
  have B0 := Lib.hid ((Below.refl w.heap.size w).alloc (Nat.le_refl _) (.cells #[.int .i64 0, .int .i64 0, .int .i64 0, .slice none 0 0] 24))
  go_enter Try.func11, Try.ntmps11
  go_wp2_with fail
  refine AT.out.mono ?_
  rintro e w0 ⟨b, rfl, hbw, tp, b0⟩
  rw [size_al] at hbw
  have KY1 := KY0.out.over b0
  have BW := B0.out.trans (b0.mono B0.out.size)
  have hbl := tp.lt
  obtain ⟨W, hW, KT0, KR0, T0, FW, hz⟩ : ∃ W, W = w0.alloc (.cells #[.pointer (some ⟨b, 0, none⟩)] 52) ∧ Blk W w0.heap.size 52 #[.pointer (some ⟨b, 0, none⟩)] ∧ Blk W w.heap.size 24 #[.int .i64 0, .int .i64 0, .int .i64 0, .slice none 0 0] ∧ Bt.TapeAt W b s 0 ∧ Below w.heap.size w W ∧ w0.heap.size + 1 ≤ W.heap.size :=
    ⟨_, rfl, Blk.new w0 52 _, Blk.al KY1 _, tp.al2 _, BW.alloc BW.size _, by rw [size_al]; exact Nat.le_refl _⟩
  have HW := Lib.hid hW
  have KYh := Lib.hid KT0
  have KRh := Lib.hid KR0
  have t0h := Lib.hid T0
  have t0 := T0
  have FWh := Lib.hid FW
  have HZ := Lib.hid hz
  clear hW KT0 KR0 T0 FW hz tp b0 KY1 BW KY0 B0 AT
  generalize hT : w0.heap.size = T at *
  have hTb : T ≠ b := by omega
  have hW1 : W.heap.size ≤ W.heap.size := Nat.le_refl _
  have N1 := Lib.hid (fun W hT => N1.out W b hT)
  have N2 := Lib.hid (fun W hT => N2.out W b hT)
  have N3 := Lib.hid (fun W hT => N3.out W b hT)
  have S1 := ST.of KYh.out hTb ((Fr.refl W (fun q => q = b)).drew)
  have HB := Lib.hid hbw
  clear hbw
  generalize hY : w.heap.size = Y at *
  go_upto_region 2 with fail
  rw [← HW.out]
  go_cut [5] (fun s5 wx => ∃ X, s5 = .pointer (some ⟨X, 0, none⟩) ∧ Ht w wx Y T b X (IntKind.i64.wrap (n1 : Int)) (IntKind.i64.wrap (n2 : Int)) (IntKind.i64.wrap (n3 : Int)) (s3, e3) (.slice none 0 0))
  case first =>
    go_region_held3 (fun w' => w'.cell? ⟨T, 0, none⟩ = some (.pointer (some ⟨b, 0, none⟩)) ∧ Fr W w' (fun q => q = b))
      (first | (with_reducible exact S1) | (refine ST.of KYh.out hTb ?_; (repeat (with_reducible first | assumption | exact Fr.refl _ _ | refine Fr.drew ?_ | refine Fr.al ?_ _ | refine Fr.set ?_ _ _ _ (.inr ?_))); all_goals (first | done | (have := f3.size; omega) | (have := kx3.g; omega)); done))
      (first
        | (go_at_call 21; refine (N3.out _ ?_).mono ?_; rotate_left; (rintro r w3 ⟨rfl, g3, t3⟩; have f3 : Fr W w3 (fun q => q = b) := Fr.on (by (repeat (with_reducible first | assumption | exact Fr.refl _ _ | refine Fr.drew ?_ | refine Fr.al ?_ _))) (Fr.grown g3); have t3h := Lib.hid t3); rotate_left; (focus ((repeat (with_reducible first | assumption | refine Bt.TapeAt.drew2 ?_ | refine Bt.TapeAt.al2 ?_ _)); done)); (first | (have kx3 := KT.step kx2 g3 rfl) | (have kx3 := KT.fresh g3 t2h.out f2.size) | (have kx3 := KT.fresh (undrew g3) t2h.out f2.size) | skip); (first | (have z0 := kx3.z0; have z1 := kx3.z1; have z2 := kx3.z2; have z3 := kx3.z3; have zf0 := kx3.zf 0; have zf1 := kx3.zf 1; have zf2 := kx3.zf 2; have zf3 := kx3.zf 3) | (have ky4 := KT.new w3 t3h.out f3.size; have kz4 := KT.newd w3 t3h.out f3.size; have y0 := ky4.z0; have y1 := ky4.z1; have y2 := ky4.z2; have y3 := ky4.z3; have yf0 := ky4.zf 0; have yf1 := ky4.zf 1; have yf2 := ky4.zf 2; have yf3 := ky4.zf 3; have x0 := kz4.z0; have x1 := kz4.z1; have x2 := kz4.z2; have x3 := kz4.z3; have xf0 := kz4.zf 0; have xf1 := kz4.zf 1; have xf2 := kz4.zf 2; have xf3 := kz4.zf 3; clear ky4 kz4)))
        | (go_at_call 21; refine (N2.out _ ?_).mono ?_; rotate_left; (rintro r w2 ⟨rfl, g2, t2⟩; have f2 : Fr W w2 (fun q => q = b) := Fr.on (by (repeat (with_reducible first | assumption | exact Fr.refl _ _ | refine Fr.drew ?_ | refine Fr.al ?_ _))) (Fr.grown g2); have t2h := Lib.hid t2); rotate_left; (focus ((repeat (with_reducible first | assumption | refine Bt.TapeAt.drew2 ?_ | refine Bt.TapeAt.al2 ?_ _)); done)); (first | (have kx2 := KT.step kx1 g2 rfl) | (have kx2 := KT.fresh g2 t1h.out f1.size) | (have kx2 := KT.fresh (undrew g2) t1h.out f1.size) | skip))
        | (go_at_call 21; refine (N1.out _ ?_).mono ?_; rotate_left; (rintro r w1 ⟨rfl, g1, t1⟩; have f1 : Fr W w1 (fun q => q = b) := Fr.on (by (repeat (with_reducible first | assumption | exact Fr.refl _ _ | refine Fr.drew ?_ | refine Fr.al ?_ _))) (Fr.grown g1); have t1h := Lib.hid t1); rotate_left; (focus ((repeat (with_reducible first | assumption | refine Bt.TapeAt.drew2 ?_ | refine Bt.TapeAt.al2 ?_ _)); done)); (first | (have kx1 := KT.step kx0 g1 rfl) | (have kx1 := KT.fresh g1 t0h.out hW1) | (have kx1 := KT.fresh (undrew g1) t0h.out hW1) | skip)))
    all_goals
      have hb4 : Hc w W w3 Y T b (s3, e3) := ⟨KYh.out, KRh.out, by rw [hY]; exact FWh.out, f3, t3h.out, HZ.out, by omega, by have := HB.out; omega, by omega⟩
      go_wp2_with fail
      go_meet
      exact ⟨_, rfl, by first | exact ht_set hb4 kx3 _ _ _ | exact ht_new hb4 _ _ _⟩
  case rest =>
    obtain ⟨X, rfl, hd⟩ := hcut
    have HD := Lib.hid hd
    simp only [IntWalk.i64_left] at HD
    have d0 : wc.cell? ⟨T, 0, none⟩ = some (.pointer (some ⟨b, 0, none⟩)) := hd.y.cell 0
    have N4h := Lib.hid (N4.out _ b hd.t)
    clear hd N1 N2 N3 N4 S1 KYh KRh t0h t0 FWh HW HZ hW1 hT
    generalize wrap64 (n1 : Int) = i1 at *
    generalize wrap64 (n2 : Int) = i2 at *
    generalize wrap64 (n3 : Int) = i3 at *
    go_wp2_with fail
    refine N4h.out.mono ?_
    rintro e w5 ⟨rfl, g5, t5⟩
    have H5 : Hid (Ht w w5 Y T b X i1 i2 i3 (s4, e4) (.slice none 0 0)) := Lib.hid (HD.out.fr (Fr.grown g5) t5)
    have SR := Lib.hid (several_run n4 l4 H5.out.y (t := (s4, e4)) H5.out.t hs4 hTb)
    have hX5 := H5.out.x.lt
    have hY5 := H5.out.r.lt
    have hXT := H5.out.h1
    have hTb2 := H5.out.h2
    have hbY := H5.out.h3
    have hPL := Lib.hid (pRuns_P (min n4 65) (s4, e4))
    clear g5 t5 HD N4h d0
    generalize pRuns (min n4 65) (s4, e4) = PR at *
    obtain ⟨Lr, tz, ez⟩ := PR
    simp only at SR HA hPL
    go_wp2_with fail
    refine SR.out.mono ?_
    rintro e w7 ⟨v, M, rfl, hMr, hsm⟩
    subst hMr
    have H7 : Hid (Ht w w7 Y T b X i1 i2 i3 (tz, ez) (.slice none 0 0)) := Lib.hid (H5.out.fr hsm.f hsm.t)
    obtain ⟨va, vc, rfl⟩ := r46_form hsm.own
    have SM := Lib.hid hsm
    have HV : Hid (Value.slice va M.length vc = .slice va M.length vc) := Lib.hid rfl
    clear hsm SR H5
    have z3 : w7.cell? ⟨X, 3, none⟩ = some (.slice none 0 0) := H7.out.x.cell 3
    have zf3 := H7.out.x.free 3
    have zT : w7.cell? ⟨T, 0, none⟩ = some (.pointer (some ⟨b, 0, none⟩)) := H7.out.y.cell 0
    have H8 : Hid (Ht w (w7.setCell ⟨X, 3, none⟩ (.slice va M.length vc)) Y T b X i1 i2 i3 (tz, ez) (.slice va M.length vc)) := Lib.hid (ht_store H7.out (.slice va M.length vc))
    have F8 : Hid (Fr w7 (w7.setCell ⟨X, 3, none⟩ (.slice va M.length vc)) (fun q => q = X ∨ q = Y)) := Lib.hid ((Fr.refl w7 _).set X 3 (.slice va M.length vc) (.inl (.inl rfl)))
    go_wp2_with fail
    generalize w7.setCell ⟨X, 3, none⟩ (.slice va M.length vc) = w8 at *
    clear z3 zf3 zT
    have c0 : w8.cell? ⟨X, 0, none⟩ = some (.int .i64 i1) := H8.out.x.cell 0
    have c1 : w8.cell? ⟨X, 1, none⟩ = some (.int .i64 i2) := H8.out.x.cell 1
    have c2 : w8.cell? ⟨X, 2, none⟩ = some (.int .i64 i3) := H8.out.x.cell 2
    have c3 : w8.cell? ⟨X, 3, none⟩ = some (.slice va M.length vc) := H8.out.x.cell 3
    have cT : w8.cell? ⟨T, 0, none⟩ = some (.pointer (some ⟨b, 0, none⟩)) := H8.out.y.cell 0
    have EN := Lib.hid (Bt.end_any H8.out.t)
    have MT : mayT (pAll s).1 (pAll s).2 = (Bt.endE tz ez == 0 && keepB i1 i2 i3 (M.map RC.r)) := by rw [HA.out]; rfl
    have MTh := Lib.hid MT
    clear MT
    simp only at EN
    generalize Bt.endE tz ez = ee at *
    have TM := Lib.hid (fun vr vp (hv : Value.slice va M.length vc = .slice vr M.length vp) => show Calls Try.prog 14 #[trackV i1 i2 i3 (.slice vr M.length vp)] w8 _ from by
      have h := tmay_any i1 i2 i3 (M.map RC.r) vr vp w8 (SM.out.keep F8.out (fun q e => by omega) hv) hPL.out
      rw [List.length_map] at h
      exact h)
    unfold trackV at TM
    by_cases hee : ee = 0
    · have heb : (ee != 0) = false := by rw [hee]; rfl
      have heb2 : (ee == 0) = true := by rw [hee]; rfl
      have TM2 := Lib.hid (TM.out va vc rfl)
      generalize hkb : keepB i1 i2 i3 (M.map RC.r) = kb at *
      subst hee
      cases kb
      · have R0 := Lib.hid (rd_no (s := s) (by rw [MTh.out]; rfl))
        go_wp2_with fail
        refine EN.out.mono ?_
        rintro e w9 ⟨rfl, rfl⟩
        go_wp2_with fail
        refine TM2.out.mono ?_
        rintro e w9 ⟨rfl, b9⟩
        have H9 : Hid (Ht w w9 Y T b X i1 i2 i3 (tz, ez) (.slice va M.length vc)) := Lib.hid (H8.out.fr (Fr.of_below b9 _) (H8.out.t.next b9))
        clear b9 c0 c1 c2 c3 cT EN TM TM2

        have r0 : w9.cell? ⟨Y, 0, none⟩ = some (.int .i64 0) := H9.out.r.cell 0
        have r1 : w9.cell? ⟨Y, 1, none⟩ = some (.int .i64 0) := H9.out.r.cell 1
        have r2 : w9.cell? ⟨Y, 2, none⟩ = some (.int .i64 0) := H9.out.r.cell 2
        have r3 : w9.cell? ⟨Y, 3, none⟩ = some (.slice none 0 0) := H9.out.r.cell 3
        have rf0 := H9.out.r.free 0
        have rf1 := H9.out.r.free 1
        have rf2 := H9.out.r.free 2
        have rf3 := H9.out.r.free 3
        go_wp2_with fail
        have E9 : Hid (Blk ((((w9.setCell ⟨Y, 0, none⟩ (.int .i64 0)).setCell ⟨Y, 1, none⟩ (.int .i64 0)).setCell ⟨Y, 2, none⟩ (.int .i64 0)).setCell ⟨Y, 3, none⟩ (.slice none 0 0)) Y 24 #[(.int .i64 0), (.int .i64 0), (.int .i64 0), (.slice none 0 0)]) := Lib.hid ((((H9.out.r.set 0 _).set 1 _).set 2 _).set 3 _)
        have F9 : Fr w9 ((((w9.setCell ⟨Y, 0, none⟩ (.int .i64 0)).setCell ⟨Y, 1, none⟩ (.int .i64 0)).setCell ⟨Y, 2, none⟩ (.int .i64 0)).setCell ⟨Y, 3, none⟩ (.slice none 0 0)) (fun q => q = Y) := ((((Fr.refl w9 (fun q => q = Y)).set Y 0 _ (.inl rfl)).set Y 1 _ (.inl rfl)).set Y 2 _ (.inl rfl)).set Y 3 _ (.inl rfl)
        have F9h := Lib.hid F9
        clear F9 r0 r1 r2 r3 rf0 rf1 rf2 rf3
        generalize (((w9.setCell ⟨Y, 0, none⟩ (.int .i64 0)).setCell ⟨Y, 1, none⟩ (.int .i64 0)).setCell ⟨Y, 2, none⟩ (.int .i64 0)).setCell ⟨Y, 3, none⟩ (.slice none 0 0) = w11 at *
        have q0 : w11.cell? ⟨Y, 0, none⟩ = some (.int .i64 0) := E9.out.cell 0
        have q1 : w11.cell? ⟨Y, 1, none⟩ = some (.int .i64 0) := E9.out.cell 1
        have q2 : w11.cell? ⟨Y, 2, none⟩ = some (.int .i64 0) := E9.out.cell 2
        have q3 : w11.cell? ⟨Y, 3, none⟩ = some (.slice none 0 0) := E9.out.cell 3
        refine bodyPost_ret (by simp [results, Try.results11, go_sem, q0, q1, q2, q3]; try rfl) rfl ?_
        have B11 : Below w.heap.size w w11 := H9.out.f.trans (F9h.out.below (fun q e => by omega) H9.out.f.size)
        refine ⟨none, 0, by rw [R0.out.1, R0.out.2]; rfl, by rw [R0.out.1]; exact fun p hp => absurd hp (Nat.not_lt_zero p), B11⟩

      · have R0 := Lib.hid (rd_ok (s := s) (by rw [MTh.out]; rfl))
        rw [HA.out] at R0
        go_wp2_with fail
        refine EN.out.mono ?_
        rintro e w9 ⟨rfl, rfl⟩
        go_wp2_with fail
        refine TM2.out.mono ?_
        rintro e w9 ⟨rfl, b9⟩
        have H9 : Hid (Ht w w9 Y T b X i1 i2 i3 (tz, ez) (.slice va M.length vc)) := Lib.hid (H8.out.fr (Fr.of_below b9 _) (H8.out.t.next b9))
        have F9a := Lib.hid (F8.out.on (Fr.of_below b9 (fun q => q = X ∨ q = Y)))
        clear b9 c0 c1 c2 c3 cT EN TM TM2
        have c0 : w9.cell? ⟨X, 0, none⟩ = some (.int .i64 i1) := H9.out.x.cell 0
        have c1 : w9.cell? ⟨X, 1, none⟩ = some (.int .i64 i2) := H9.out.x.cell 1
        have c2 : w9.cell? ⟨X, 2, none⟩ = some (.int .i64 i3) := H9.out.x.cell 2
        have c3 : w9.cell? ⟨X, 3, none⟩ = some (.slice va M.length vc) := H9.out.x.cell 3

        have r0 : w9.cell? ⟨Y, 0, none⟩ = some (.int .i64 0) := H9.out.r.cell 0
        have r1 : w9.cell? ⟨Y, 1, none⟩ = some (.int .i64 0) := H9.out.r.cell 1
        have r2 : w9.cell? ⟨Y, 2, none⟩ = some (.int .i64 0) := H9.out.r.cell 2
        have r3 : w9.cell? ⟨Y, 3, none⟩ = some (.slice none 0 0) := H9.out.r.cell 3
        have rf0 := H9.out.r.free 0
        have rf1 := H9.out.r.free 1
        have rf2 := H9.out.r.free 2
        have rf3 := H9.out.r.free 3
        go_wp2_with fail
        have E9 : Hid (Blk ((((w9.setCell ⟨Y, 0, none⟩ (.int .i64 i1)).setCell ⟨Y, 1, none⟩ (.int .i64 i2)).setCell ⟨Y, 2, none⟩ (.int .i64 i3)).setCell ⟨Y, 3, none⟩ (.slice va M.length vc)) Y 24 #[(.int .i64 i1), (.int .i64 i2), (.int .i64 i3), (.slice va M.length vc)]) := Lib.hid ((((H9.out.r.set 0 _).set 1 _).set 2 _).set 3 _)
        have F9 : Fr w9 ((((w9.setCell ⟨Y, 0, none⟩ (.int .i64 i1)).setCell ⟨Y, 1, none⟩ (.int .i64 i2)).setCell ⟨Y, 2, none⟩ (.int .i64 i3)).setCell ⟨Y, 3, none⟩ (.slice va M.length vc)) (fun q => q = Y) := ((((Fr.refl w9 (fun q => q = Y)).set Y 0 _ (.inl rfl)).set Y 1 _ (.inl rfl)).set Y 2 _ (.inl rfl)).set Y 3 _ (.inl rfl)
        have F9h := Lib.hid F9
        clear F9 r0 r1 r2 r3 rf0 rf1 rf2 rf3
        generalize (((w9.setCell ⟨Y, 0, none⟩ (.int .i64 i1)).setCell ⟨Y, 1, none⟩ (.int .i64 i2)).setCell ⟨Y, 2, none⟩ (.int .i64 i3)).setCell ⟨Y, 3, none⟩ (.slice va M.length vc) = w11 at *
        have q0 : w11.cell? ⟨Y, 0, none⟩ = some (.int .i64 i1) := E9.out.cell 0
        have q1 : w11.cell? ⟨Y, 1, none⟩ = some (.int .i64 i2) := E9.out.cell 1
        have q2 : w11.cell? ⟨Y, 2, none⟩ = some (.int .i64 i3) := E9.out.cell 2
        have q3 : w11.cell? ⟨Y, 3, none⟩ = some (.slice va M.length vc) := E9.out.cell 3
        refine bodyPost_ret (by simp [results, Try.results11, go_sem, q0, q1, q2, q3]; try rfl) rfl ?_
        have B11 : Below w.heap.size w w11 := H9.out.f.trans (F9h.out.below (fun q e => by omega) H9.out.f.size)
        refine ⟨va, vc, by rw [R0.out.1, R0.out.2, List.length_map]; rfl, by rw [R0.out.1]; exact SM.out.keep (F9a.out.trans F9h.out (R := fun q => q = X ∨ q = Y) (fun _ _ h => h) (fun _ _ h => .inr h)) (fun q e => by omega) rfl, B11⟩

    · have heb : (ee != 0) = true := by simpa using hee
      have heb2 : (ee == 0) = false := by simpa using hee
      have R0 := Lib.hid (rd_no (s := s) (by rw [MTh.out, heb2]; rfl))
      clear TM
      go_wp2_with fail
      refine EN.out.mono ?_
      rintro e w9 ⟨rfl, rfl⟩

      have r0 : w8.cell? ⟨Y, 0, none⟩ = some (.int .i64 0) := H8.out.r.cell 0
      have r1 : w8.cell? ⟨Y, 1, none⟩ = some (.int .i64 0) := H8.out.r.cell 1
      have r2 : w8.cell? ⟨Y, 2, none⟩ = some (.int .i64 0) := H8.out.r.cell 2
      have r3 : w8.cell? ⟨Y, 3, none⟩ = some (.slice none 0 0) := H8.out.r.cell 3
      have rf0 := H8.out.r.free 0
      have rf1 := H8.out.r.free 1
      have rf2 := H8.out.r.free 2
      have rf3 := H8.out.r.free 3
      go_wp2_with fail
      have E9 : Hid (Blk ((((w8.setCell ⟨Y, 0, none⟩ (.int .i64 0)).setCell ⟨Y, 1, none⟩ (.int .i64 0)).setCell ⟨Y, 2, none⟩ (.int .i64 0)).setCell ⟨Y, 3, none⟩ (.slice none 0 0)) Y 24 #[(.int .i64 0), (.int .i64 0), (.int .i64 0), (.slice none 0 0)]) := Lib.hid ((((H8.out.r.set 0 _).set 1 _).set 2 _).set 3 _)
      have F9 : Fr w8 ((((w8.setCell ⟨Y, 0, none⟩ (.int .i64 0)).setCell ⟨Y, 1, none⟩ (.int .i64 0)).setCell ⟨Y, 2, none⟩ (.int .i64 0)).setCell ⟨Y, 3, none⟩ (.slice none 0 0)) (fun q => q = Y) := ((((Fr.refl w8 (fun q => q = Y)).set Y 0 _ (.inl rfl)).set Y 1 _ (.inl rfl)).set Y 2 _ (.inl rfl)).set Y 3 _ (.inl rfl)
      have F9h := Lib.hid F9
      clear F9 r0 r1 r2 r3 rf0 rf1 rf2 rf3
      generalize (((w8.setCell ⟨Y, 0, none⟩ (.int .i64 0)).setCell ⟨Y, 1, none⟩ (.int .i64 0)).setCell ⟨Y, 2, none⟩ (.int .i64 0)).setCell ⟨Y, 3, none⟩ (.slice none 0 0) = w11 at *
      have q0 : w11.cell? ⟨Y, 0, none⟩ = some (.int .i64 0) := E9.out.cell 0
      have q1 : w11.cell? ⟨Y, 1, none⟩ = some (.int .i64 0) := E9.out.cell 1
      have q2 : w11.cell? ⟨Y, 2, none⟩ = some (.int .i64 0) := E9.out.cell 2
      have q3 : w11.cell? ⟨Y, 3, none⟩ = some (.slice none 0 0) := E9.out.cell 3
      refine bodyPost_ret (by simp [results, Try.results11, go_sem, q0, q1, q2, q3]; try rfl) rfl ?_
      have B11 : Below w.heap.size w w11 := H8.out.f.trans (F9h.out.below (fun q e => by omega) H8.out.f.size)
      refine ⟨none, 0, by rw [R0.out.1, R0.out.2]; rfl, by rw [R0.out.1]; exact fun p hp => absurd hp (Nat.not_lt_zero p), B11⟩

end Go.Proofs.Ytifdljdnpdefgaa
