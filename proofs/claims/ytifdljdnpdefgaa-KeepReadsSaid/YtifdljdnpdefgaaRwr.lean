/-
  A TRACK's TEXT as the document has it: the document's Write.
-/
import Derived.Test.YtifdljdnpdefgaaMay
import Derived.Test.YtifdljdnpdefgaaWr2
namespace Go.Proofs.Ytifdljdnpdefgaa
open Go.RowKit
abbrev SQ (W : World) (T : Nat) (v0 v1 v2 v3 : Value) (w' : World) : Prop := w'.cell? ⟨T, 0, none⟩ = some v0 ∧ w'.cell? ⟨T, 1, none⟩ = some v1 ∧ w'.cell? ⟨T, 2, none⟩ = some v2 ∧ w'.cell? ⟨T, 3, none⟩ = some v3 ∧ Below W.heap.size W w'
theorem SQ.of {W w' : World} {T t : Nat} {v0 v1 v2 v3 : Value} (K : Blk W T t #[v0, v1, v2, v3]) (h : Below W.heap.size W w') : SQ W T v0 v1 v2 v3 w' :=
  have k := K.below h K.lt
  ⟨k.cell 0, k.cell 1, k.cell 2, k.cell 3, h⟩
abbrev SP (W : World) (T : Nat) (v : Value) (qb i0 i1 : Nat) (p0 p1 : Int) (w' : World) : Prop := w'.cell? ⟨T, 4, none⟩ = some v ∧ w'.cell? ⟨qb, i1, none⟩ = some (.int .i64 p1) ∧ w'.cell? ⟨qb, i0, none⟩ = some (.int .i64 p0) ∧ Below W.heap.size W w'
theorem SP.of {W w' : World} {T : Nat} {v : Value} {qb i0 i1 : Nat} {p0 p1 : Int} (K : SP W T v qb i0 i1 p0 p1 W) (h : Below W.heap.size W w') : SP W T v qb i0 i1 p0 p1 w' := by
  obtain ⟨h1, h2, h3, _⟩ := K
  have q : ∀ {b i : Nat} {u : Value}, W.cell? ⟨b, i, none⟩ = some u → w'.cell? ⟨b, i, none⟩ = some u := fun hc => by rw [h.cell (p := ⟨_, _, none⟩) (World.block_lt_of_cell? _ _ hc)]; exact hc
  exact ⟨q h1, q h2, q h3, h⟩
theorem nil_app (a : ByteArray) : (⟨#[]⟩ : ByteArray) ++ a = a := ByteArray.ext (by simp)
theorem catN1 (a : Int) : catN [a] = Bt.numS a := nil_app _
theorem catN3 (a b c : Int) : catN [a, b, c] = Bt.numS a ++ Bt.numS b ++ Bt.numS c := by
  show (⟨#[]⟩ : ByteArray) ++ Bt.numS a ++ Bt.numS b ++ Bt.numS c = _
  rw [nil_app]
theorem catN4 (a b c d : Int) : catN [a, b, c, d] = Bt.numS a ++ Bt.numS b ++ Bt.numS c ++ Bt.numS d := by
  show (⟨#[]⟩ : ByteArray) ++ Bt.numS a ++ Bt.numS b ++ Bt.numS c ++ Bt.numS d = _
  rw [nil_app]
theorem head_eq (A : ByteArray) (rb rt rs rn : Int) (P : List Int) : A ++ Bt.numS rb ++ Bt.numS rt ++ Bt.numS rs ++ Bt.numS rn ++ Bt.numS (P.length : Int) = A ++ headS ⟨rb, rt, rs, rn, P⟩ := by
  unfold headS
  simp only
  rw [catN3, catN1]
  simp only [app_assoc]
set_option maxHeartbeats 16000000 in
set_option maxRecDepth 100000 in
theorem rwrite_no {c t l : Int} {L : List Rn} (a : Option Addr) (cp : Nat) (w : World) (hR : Rns w a L) (hP : ∀ r ∈ L, r.P.length ≤ 140737488355328) (hk : keepB c t l L = false) : Calls Try.prog 9 #[trackV c t l (.slice a L.length cp)] w fun e w' => e = .returned (.tuple #[.string ⟨#[]⟩, .int .i64 1]) ∧ Below w.heap.size w w' := by
  have bA := (Below.refl _ w).alloc (Nat.le_refl _) (.cells #[.int .i64 c, .int .i64 t, .int .i64 l, .slice a L.length cp] 34)
  have TM := Lib.hid (rmay_any c t l L a cp _ (hR.below bA) hP)
  rw [hk] at TM
  have BA := Lib.hid bA
  clear hR hP bA hk
  unfold trackV at *
  go_enter Try.func9, Try.ntmps9
  go_wp2_with fail
  refine TM.out.mono ?_
  rintro e w1 ⟨rfl, b1⟩
  have B1 := Lib.hid (BA.out.trans (b1.mono BA.out.size))
  clear b1
  go_wp2_with fail
  go_ret2
  exact ⟨rfl, B1.out⟩
/-- at the head of the round over runs -/
structure Wo (w wq : World) (a : Option Addr) (L : List Rn) (T m cp : Nat) (c t l : Int) : Prop where
  bw : Below w.heap.size w wq
  rw : Rns wq a L
  kw : Blk wq T 34 #[.int .i64 c, .int .i64 t, .int .i64 l, .slice a m cp]
theorem Wo.below {w wq w' : World} {a : Option Addr} {L : List Rn} {T m cp : Nat} {c t l : Int} (h : Wo w wq a L T m cp c t l) (hb : Below wq.heap.size wq w') : Wo w w' a L T m cp c t l :=
  ⟨h.bw.trans (hb.mono h.bw.size), h.rw.below hb, h.kw.below hb h.kw.lt⟩
structure Wj (w wq : World) (a : Option Addr) (L : List Rn) (T m cp : Nat) (c t l : Int) (X qb qo n cq : Nat) (P : List Int) (rb rt rs rn : Int) : Prop where
  o : Wo w wq a L T m cp c t l
  p : Ints wq (some ⟨qb, qo, none⟩) P
  k : Blk wq X 51 #[.int .i64 rb, .int .i64 rt, .int .i64 rs, .int .u64 rn, .slice (some ⟨qb, qo, none⟩) n cq]
theorem Wj.below {w wq w' : World} {a : Option Addr} {L : List Rn} {T m cp : Nat} {c t l : Int} {X qb qo n cq : Nat} {P : List Int} {rb rt rs rn : Int} (h : Wj w wq a L T m cp c t l X qb qo n cq P rb rt rs rn) (hb : Below wq.heap.size wq w') : Wj w w' a L T m cp c t l X qb qo n cq P rb rt rs rn :=
  ⟨h.o.below hb, h.p.below hb, h.k.below hb h.k.lt⟩
set_option maxHeartbeats 16000000 in
set_option maxRecDepth 100000 in
theorem rwrite_ok {c t l : Int} {L : List Rn} (a : Option Addr) (cp : Nat) (w : World) (hR : Rns w a L) (hP : ∀ r ∈ L, r.P.length ≤ 140737488355328) (hU : ∀ r ∈ L, r.t ≤ 9223372036854775807 ∧ 0 ≤ r.n ∧ r.n < 18446744073709551616) (hk : keepB c t l L = true) (ht : t ≤ 9223372036854775807) : Calls Try.prog 9 #[trackV c t l (.slice a L.length cp)] w fun e w' => e = .returned (.tuple #[.string (textS c t l L), .int .i64 0]) ∧ Below w.heap.size w w' := by
  have bA := (Below.refl _ w).alloc (Nat.le_refl _) (.cells #[.int .i64 c, .int .i64 t, .int .i64 l, .slice a L.length cp] 34)
  have TM := Lib.hid (rmay_any c t l L a cp _ (hR.below bA) hP)
  rw [hk] at TM
  have WA : Hid (Wo w (w.alloc (.cells #[.int .i64 c, .int .i64 t, .int .i64 l, .slice a L.length cp] 34)) a L w.heap.size L.length cp c t l) := Lib.hid ⟨bA, hR.below bA, Blk.new w 34 _⟩
  have HU := Lib.hid hU
  obtain ⟨kc, kt, kl, kn, kr⟩ := keep_bd hk
  have KR := Lib.hid kr
  have HT : Hid (runsS (catN [c, t, l, (L.length : Int)]) L = textS c t l L) := rfl
  clear hR hP hU bA hk kr
  unfold trackV at *
  generalize hm : L.length = m at *
  have HM := Lib.hid hm
  clear hm
  generalize textS c t l L = TS at *
  have c0 := WA.out.kw.cell 0
  have c1 := WA.out.kw.cell 1
  have c2 := WA.out.kw.cell 2
  have c3 := WA.out.kw.cell 3
  simp only [List.getElem?_toArray, List.getElem?_cons_zero, List.getElem?_cons_succ] at c0 c1 c2 c3
  have N0 := Lib.hid (fun W => rnum1_any c (by omega) (by omega) W)
  have N1 := Lib.hid (fun W => rnum1_any t (by omega) (by omega) W)
  have N2 := Lib.hid (fun W => rnum1_any l (by omega) (by omega) W)
  have N3 := Lib.hid (fun W => rnum1_any (m : Int) (by omega) (by omega) W)
  have z0 := Bt.numS_size c
  have z1 := Bt.numS_size t
  have z2 := Bt.numS_size l
  have z3 := Bt.numS_size (m : Int)
  have HC4 := Lib.hid (catN4 c t l (m : Int))
  have hZS : (catN [c, t, l, (m : Int)]).size ≤ 36 := catN_size _
  go_enter Try.func9, Try.ntmps9
  go_wp2_with fail
  refine TM.out.mono ?_
  rintro e w1 ⟨rfl, b1⟩
  have W1 := Lib.hid (WA.out.below b1)
  clear b1 WA TM c0 c1 c2 c3
  generalize w.heap.size = T at *
  go_wp2_with fail
  have S1 := SQ.of W1.out.kw ((Below.refl w1.heap.size w1).drew)
  have q1 : ¬ (9223372036854775807 < (Bt.numS c).size + (Bt.numS t).size) := by omega
  have q2 : ¬ (9223372036854775807 < (Bt.numS c).size + (Bt.numS t).size + (Bt.numS l).size) := by omega
  have q3 : ¬ (9223372036854775807 < (Bt.numS c).size + (Bt.numS t).size + (Bt.numS l).size + (Bt.numS (m : Int)).size) := by omega
  clear z0 z1 z2 z3
  go_region_held3 (fun w' => w'.cell? ⟨T, 0, none⟩ = some (.int .i64 c) ∧ w'.cell? ⟨T, 1, none⟩ = some (.int .i64 t) ∧ w'.cell? ⟨T, 2, none⟩ = some (.int .i64 l) ∧ w'.cell? ⟨T, 3, none⟩ = some (.slice a m cp) ∧ Below w1.heap.size w1 w')
    (first | (with_reducible exact S1) | (refine SQ.of W1.out.kw ?_; (repeat (with_reducible first | assumption | exact Below.refl _ _ | refine Below.drew ?_ | refine belowAlloc ?_ _)); done))
    (first
      | (go_at_call 18; with_reducible refine (N0.out _).mono ?_; rintro e w3 ⟨rfl, b3⟩; have d3 : Below w1.heap.size w1 w3 := belowTrans (by (repeat (with_reducible first | assumption | exact Below.refl _ _ | refine Below.drew ?_ | refine belowAlloc ?_ _))) b3)
      | (go_at_call 18; with_reducible refine (N1.out _).mono ?_; rintro e w4 ⟨rfl, b4⟩; have d4 : Below w1.heap.size w1 w4 := belowTrans (by (repeat (with_reducible first | assumption | exact Below.refl _ _ | refine Below.drew ?_ | refine belowAlloc ?_ _))) b4)
      | (go_at_call 18; with_reducible refine (N2.out _).mono ?_; rintro e w5 ⟨rfl, b5⟩; have d5 : Below w1.heap.size w1 w5 := belowTrans (by (repeat (with_reducible first | assumption | exact Below.refl _ _ | refine Below.drew ?_ | refine belowAlloc ?_ _))) b5)
      | (go_at_call 18; with_reducible refine (N3.out _).mono ?_; rintro e w6 ⟨rfl, b6⟩; have d6 : Below w1.heap.size w1 w6 := belowTrans (by (repeat (with_reducible first | assumption | exact Below.refl _ _ | refine Below.drew ?_ | refine belowAlloc ?_ _))) b6))
  have W6 := Lib.hid (W1.out.below d6)
  clear d3 d4 d5 d6 b3 b4 b5 b6 S1 N0 N1 N2 N3 q1 q2 q3
  go_wp2_with fail
  have hS : Hid (Bt.numS c ++ Bt.numS t ++ Bt.numS l ++ Bt.numS (m : Int) = runsS (catN [c, t, l, (m : Int)]) (L.take 0)) := Lib.hid HC4.out.symm
  generalize Bt.numS c ++ Bt.numS t ++ Bt.numS l ++ Bt.numS (m : Int) = S1 at *
  generalize catN [c, t, l, (m : Int)] = S0 at *
  go_loopw [4, 5] (fun s i wq => ∃ j : Nat, s = .string (runsS S0 (L.take j)) ∧ i = .int .i64 (j : Int) ∧ j ≤ m ∧ Wo w wq a L T m cp c t l) (fun _ i _ => m - (intOf i).toNat)
  case atStart => exact ⟨0, by rw [← hS.out], rfl, Nat.zero_le _, W6.out⟩
  case round =>
    obtain ⟨j, rfl, rfl, hjm, hW⟩ := hrel
    have HW := Lib.hid hW
    have c3 : wr.cell? ⟨T, 3, none⟩ = some (.slice a m cp) := hW.kw.cell 3
    clear hW W6 W1 hS
    by_cases hlt : j < m
    rotate_left
    · have hlt' : ¬ (j : Int) < (m : Int) := by omega
      have RH : Hid (runsS S0 (L.take j) = TS) := Lib.hid (by rw [List.take_of_length_le (by rw [HM.out]; omega), HT.out])
      go_wp2_with fail
      go_ret2
      exact ⟨by first | (rw [RH.out]; done) | (rw [RH.out]; rfl), HW.out.bw⟩
    have hlt' : (j : Int) < (m : Int) := by omega
    have hjL : j < L.length := by rw [HM.out]; exact hlt
    obtain ⟨g, o, q, cq, e, hg, d0, d1, d2, d3, d4, hi, hcap⟩ := HW.out.rw j hjL
    subst e
    have hr := KR.out L[j] (List.getElem_mem hjL)
    have hu := HU.out L[j] (List.getElem_mem hjL)
    have HC : Hid (runsS S0 (L.take (j + 1)) = runsS S0 (L.take j) ++ runS L[j]) := Lib.hid (by rw [List.take_succ_eq_append_getElem hjL, runsS_snoc])
    have hA := runsS_size (L.take j) S0 (fun r hr => (KR.out r (List.mem_of_mem_take hr)).2.2.2.2.1)
    rw [List.length_take] at hA
    generalize runsS S0 (L.take j) = A at *
    generalize L[j] = r at *
    obtain ⟨rb, rt, rs, rn, P⟩ := r
    simp only at d0 d1 d2 d3 d4 hi hr hu hcap
    clear hcap
    obtain ⟨r1, ⟨r2, r3⟩, ⟨r4, r5⟩, r6, r7, r8⟩ := hr
    obtain ⟨u1, u2, u3⟩ := hu
    have M0 := Lib.hid (fun W => rnum1_any rb (by omega) (by omega) W)
    have M1 := Lib.hid (fun W => rnum1_any rt (by omega) (by omega) W)
    have M2 := Lib.hid (fun W => rnum1_any rs (by omega) (by omega) W)
    have M3 := Lib.hid (fun W => Bt.rnum_any rn u2 u3 W)
    have M4 := Lib.hid (fun W => rnum1_any (P.length : Int) (by omega) (by omega) W)
    have bB := (Below.refl _ wr).alloc (Nat.le_refl _) (.cells #[.int .i64 rb, .int .i64 rt, .int .i64 rs, .int .u64 rn, .slice q P.length cq] 51)
    have hH : Hid (A ++ Bt.numS rb ++ Bt.numS rt ++ Bt.numS rs ++ Bt.numS rn ++ Bt.numS (P.length : Int) = A ++ headS ⟨rb, rt, rs, rn, P⟩) := Lib.hid (head_eq ..)
    obtain ⟨qb, qo, hq, hq1, hq2⟩ := hi 0 r6
    clear hq1 hq2
    subst hq
    have R8 := Lib.hid r8
    have WB : Hid (Wj w (wr.alloc (.cells #[.int .i64 rb, .int .i64 rt, .int .i64 rs, .int .u64 rn, .slice (some ⟨qb, qo, none⟩) P.length cq] 51)) (some ⟨g, o, none⟩) L T m cp c t l wr.heap.size qb qo P.length cq P rb rt rs rn) := Lib.hid ⟨HW.out.below bB, hi.below bB, Blk.new wr 51 _⟩
    have z0 := Bt.numS_size rb
    have z1 := Bt.numS_size rt
    have z2 := Bt.numS_size rs
    have z3 := Bt.numS_size rn
    have z4 := Bt.numS_size (P.length : Int)
    clear bB hi hg r8
    have e0 := WB.out.k.cell 0
    have e1 := WB.out.k.cell 1
    have e2 := WB.out.k.cell 2
    have e3 := WB.out.k.cell 3
    have e4 := WB.out.k.cell 4
    simp only [List.getElem?_toArray, List.getElem?_cons_zero, List.getElem?_cons_succ] at e0 e1 e2 e3 e4
    have q1 : ¬ (9223372036854775807 < A.size + (Bt.numS rb).size) := by omega
    have q2 : ¬ (9223372036854775807 < A.size + (Bt.numS rb).size + (Bt.numS rt).size) := by omega
    have q3 : ¬ (9223372036854775807 < A.size + (Bt.numS rb).size + (Bt.numS rt).size + (Bt.numS rs).size) := by omega
    have q4 : ¬ (9223372036854775807 < A.size + (Bt.numS rb).size + (Bt.numS rt).size + (Bt.numS rs).size + (Bt.numS rn).size) := by omega
    have q5 : ¬ (9223372036854775807 < A.size + (Bt.numS rb).size + (Bt.numS rt).size + (Bt.numS rs).size + (Bt.numS rn).size + (Bt.numS (P.length : Int)).size) := by omega
    have hHz : Hid ((A ++ headS ⟨rb, rt, rs, rn, P⟩).size ≤ 100000) := Lib.hid (by
      rw [ByteArray.size_append]
      have := headS_size ⟨rb, rt, rs, rn, P⟩
      omega)
    clear z0 z1 z2 z3 z4
    generalize hn : P.length = n at *
    have HNN := Lib.hid hn
    clear hn
    go_wp2_with fail
    generalize wr.alloc (.cells #[.int .i64 rb, .int .i64 rt, .int .i64 rs, .int .u64 rn, .slice (some ⟨qb, qo, none⟩) n cq] 51) = W at *
    generalize wr.heap.size = X at *
    clear e0 e1 e2 e3 e4 c3
    have S2 := SR.of WB.out.k ((Below.refl W.heap.size W).drew)
    go_region_held3 (fun w' => w'.cell? ⟨X, 0, none⟩ = some (.int .i64 rb) ∧ w'.cell? ⟨X, 1, none⟩ = some (.int .i64 rt) ∧ w'.cell? ⟨X, 2, none⟩ = some (.int .i64 rs) ∧ w'.cell? ⟨X, 3, none⟩ = some (.int .u64 rn) ∧ w'.cell? ⟨X, 4, none⟩ = some (.slice (some ⟨qb, qo, none⟩) n cq) ∧ Below W.heap.size W w')
      (first | (with_reducible exact S2) | (refine SR.of WB.out.k ?_; (repeat (with_reducible first | assumption | exact Below.refl _ _ | refine Below.drew ?_ | refine belowAlloc ?_ _)); done))
      (first
        | (go_at_call 18; with_reducible refine (M0.out _).mono ?_; rintro e w3 ⟨rfl, b3⟩; have d3 : Below W.heap.size W w3 := belowTrans (by (repeat (with_reducible first | assumption | exact Below.refl _ _ | refine Below.drew ?_ | refine belowAlloc ?_ _))) b3)
        | (go_at_call 18; with_reducible refine (M1.out _).mono ?_; rintro e w4 ⟨rfl, b4⟩; have d4 : Below W.heap.size W w4 := belowTrans (by (repeat (with_reducible first | assumption | exact Below.refl _ _ | refine Below.drew ?_ | refine belowAlloc ?_ _))) b4)
        | (go_at_call 18; with_reducible refine (M2.out _).mono ?_; rintro e w5 ⟨rfl, b5⟩; have d5 : Below W.heap.size W w5 := belowTrans (by (repeat (with_reducible first | assumption | exact Below.refl _ _ | refine Below.drew ?_ | refine belowAlloc ?_ _))) b5)
        | (go_at_call 19; with_reducible refine (M3.out _).mono ?_; rintro e w6 ⟨rfl, b6⟩; have d6 : Below W.heap.size W w6 := belowTrans (by (repeat (with_reducible first | assumption | exact Below.refl _ _ | refine Below.drew ?_ | refine belowAlloc ?_ _))) b6)
        | (go_at_call 18; with_reducible refine (M4.out _).mono ?_; rintro e w7 ⟨rfl, b7⟩; have d7 : Below W.heap.size W w7 := belowTrans (by (repeat (with_reducible first | assumption | exact Below.refl _ _ | refine Below.drew ?_ | refine belowAlloc ?_ _))) b7))
    have W7 := Lib.hid (WB.out.below d7)
    clear d3 d4 d5 d6 d7 b3 b4 b5 b6 b7 S2 M0 M1 M2 M3 M4 q1 q2 q3 q4 q5 WB
    generalize A ++ Bt.numS rb ++ Bt.numS rt ++ Bt.numS rs ++ Bt.numS rn ++ Bt.numS (n : Int) = H at *
    rw [← hH.out] at hHz
    go_wp2_with fail
    go_loopw [4, 7] (fun s i wq => ∃ k : Nat, s = .string (H ++ catS (gaps P (k - 1))) ∧ i = .int .i64 (k : Int) ∧ 1 ≤ k ∧ k ≤ n ∧ Wj w wq (some ⟨g, o, none⟩) L T m cp c t l X qb qo n cq P rb rt rs rn) (fun _ i _ => n - (intOf i).toNat)
    case atStart => exact ⟨1, by rw [show catS (gaps P (1 - 1)) = ⟨#[]⟩ from rfl, app_nil], rfl, Nat.le_refl _, by omega, W7.out⟩
    case round =>
      obtain ⟨k, rfl, rfl, hk1, hkn, hW⟩ := hrel
      have HX := Lib.hid hW
      have f4 : wr.cell? ⟨X, 4, none⟩ = some (.slice (some ⟨qb, qo, none⟩) n cq) := hW.k.cell 4
      clear hW W7
      by_cases hk2 : k < n
      rotate_left
      · have l1 : ¬ (k : Int) < (n : Int) := by omega
        go_wp2_with fail
        have HF : Hid (runsS S0 (L.take (j + 1)) = H ++ catS (gaps P (k - 1))) := Lib.hid (by
          rw [HC.out, hH.out]
          unfold runS
          simp only
          rw [← app_assoc, HNN.out, show k = n by omega])
        go_roundw
        case rel => exact ⟨j + 1, by rw [HF.out], by go_num, by omega, HX.out.o⟩
        case measure => simp [intOf]; omega
      have l1 : (k : Int) < (n : Int) := by omega
      have hkP : k < P.length := by rw [HNN.out]; exact hk2
      have hk0 : k - 1 < P.length := by omega
      obtain ⟨_, _, e1, _, z1⟩ := HX.out.p k hkP
      cases e1
      obtain ⟨_, _, e2, _, z0⟩ := HX.out.p (k - 1) hk0
      cases e2
      have o1 := R8.out k (by omega)
      have o0 := R8.out (k - 1) (by omega)
      have HGS : Hid (catS (gaps P k) = catS (gaps P (k - 1)) ++ Bt.numS (P[k] - P[k - 1] - 1)) := Lib.hid (by
        have e := gaps_succ P (k - 1)
        rw [show k - 1 + 1 = k by omega] at e
        rw [e, catS_snoc, getD_at hkP, getD_at hk0, catN1])
      have hz := catS_size (gaps P (k - 1))
      have hgl : (gaps P (k - 1)).length = k - 1 := by unfold gaps; rw [List.length_map, List.length_range]
      have hz2 := Bt.numS_size (P[k] - P[k - 1] - 1)
      unfold okAt idxB at o1 o0
      rw [getD_at hkP, getD_at hk0] at o1
      rw [getD_at hk0] at o0
      simp only [Bool.and_eq_true, Bool.or_eq_true, beq_iff_eq, decide_eq_true_eq] at o1 o0
      generalize P[k] = p1 at *
      generalize P[k - 1] = p0 at *
      obtain ⟨⟨a1, a2⟩, a3⟩ := o1
      have a0 := o0.1
      have a4 : p0 < p1 := by omega
      have NS := Lib.hid (fun W => rnum1_any (p1 - p0 - 1) (by omega) (by omega) W)
      have hZ := hHz.out
      have qz : ¬ (9223372036854775807 < H.size + (catS (gaps P (k - 1))).size + (Bt.numS (p1 - p0 - 1)).size) := by omega
      generalize catS (gaps P (k - 1)) = CS0 at *
      have HAS : Hid (H ++ catS (gaps P k) = H ++ CS0 ++ Bt.numS (p1 - p0 - 1)) := Lib.hid (by rw [HGS.out, app_assoc])
      have z0' : wr.cell? ⟨qb, qo + ((k : Int) - 1).toNat, none⟩ = some (.int .i64 p0) := by rw [show ((k : Int) - 1).toNat = k - 1 by omega]; exact z0
      have x0 : ¬ ((k : Int) - 1 < 0) := by omega
      have x1 : (k : Int) - 1 < (n : Int) := by omega
      have x2 : 0 ≤ (k : Int) - 1 := by omega
      have x3 : IntKind.i64.wrap ((k : Int) - 1) = (k : Int) - 1 := IntWalk.i64_in _ (by omega)
      have x4 : wrap64 ((k : Int) - 1) = (k : Int) - 1 := IntWalk.wrap64_in _ (by omega)
      have x6 : (1 : Int) ≤ (k : Int) := by omega
      have x7 : 0 < k := by omega
      have y1 : IntKind.i64.wrap (p1 - p0) = p1 - p0 := IntWalk.i64_in _ (by omega)
      have y2 : IntKind.i64.wrap (p1 - p0 - 1) = p1 - p0 - 1 := IntWalk.i64_in _ (by omega)
      have K2 : SP wr X (.slice (some ⟨qb, qo, none⟩) n cq) qb (qo + (k - 1)) (qo + k) p0 p1 wr := ⟨f4, z1, z0, Below.refl _ _⟩
      have K2h := Lib.hid K2
      have S3 := SP.of K2 ((Below.refl wr.heap.size wr).drew)
      clear o0 a3 hz hz2 hgl hZ HGS
      go_wp2_with fail
      clear z0 z0' z1 f4
      go_region_held3 (fun w' => w'.cell? ⟨X, 4, none⟩ = some (.slice (some ⟨qb, qo, none⟩) n cq) ∧ w'.cell? ⟨qb, qo + k, none⟩ = some (.int .i64 p1) ∧ w'.cell? ⟨qb, qo + (k - 1), none⟩ = some (.int .i64 p0) ∧ Below wr.heap.size wr w')
        (first | (with_reducible exact S3) | (refine SP.of K2h.out ?_; (repeat (with_reducible first | assumption | exact Below.refl _ _ | refine Below.drew ?_ | refine belowAlloc ?_ _)); done))
        (first
          | (go_at_call 18; refine (NS.out _).mono ?_; rintro e w3 ⟨rfl, b3⟩; have d3 : Below wr.heap.size wr w3 := belowTrans (by (repeat (with_reducible first | assumption | exact Below.refl _ _ | refine Below.drew ?_ | refine belowAlloc ?_ _))) b3))
      have W3 := Lib.hid (HX.out.below d3)
      clear d3 b3 S3 NS K2 K2h
      go_wp2_with fail
      go_roundw
      case rel => exact ⟨k + 1, by rw [Nat.add_sub_cancel, HAS.out], by go_num, by omega, by omega, W3.out⟩
      case measure => simp [intOf]; omega
end Go.Proofs.Ytifdljdnpdefgaa
