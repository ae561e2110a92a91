/-
  THE LAW KeepBack AS A WALK.
-/
import Derived.Test.YtifdljdnpdefgaaBkp
import Derived.Test.YtifdljdnpdefgaaSam
namespace Go.Proofs.Ytifdljdnpdefgaa
open Go.RowKit
theorem wrap_le (n : Int) : wrap64 n ≤ 9223372036854775807 := by unfold wrap64; omega
theorem pRun_ok (t : Tp) : Rok (pRun t).1 := by
  have h1 := pRun_P t
  have n3 := pn_lt (pn (pn (pn t).2).2).2
  have e : (pRun t).1.t = wrap64 (pn (pn t).2).1 ∧ (pRun t).1.n = ((pn (pn (pn (pn t).2).2).2).1 : Int) := by
    unfold pRun
    split <;> exact ⟨rfl, rfl⟩
  have := wrap_le (pn (pn t).2).1
  refine ⟨by omega, ?_, ?_, ?_⟩
  · rw [e.1]; exact this
  · rw [e.2]; omega
  · rw [e.2]; omega
theorem pRuns_ok (k : Nat) (t : Tp) : ∀ r ∈ (pRuns k t).1, Rok r := by
  induction k with
  | zero => intro r hr; simp [pRuns] at hr
  | succ k ih =>
    intro r hr
    have hr' : r ∈ (pRuns k t).1 ++ [(pRun (pRuns k t).2).1] := hr
    rcases List.mem_append.1 hr' with h | h
    · exact ih r h
    · simp only [List.mem_singleton] at h
      subst h
      exact pRun_ok _
/-- what a text that says nothing gives -/
theorem rd_none {s : ByteArray} (h : pRead s = none) : rdTr s = (0, 0, 0, []) ∧ rdE s = 3 := by
  unfold rdTr rdE
  rw [h]
  exact ⟨rfl, rfl⟩
/-- what a text that says a track gives -/
theorem rd_some {s : ByteArray} (x : Tr) (h : pRead s = some x) : rdTr s = x ∧ rdE s = 0 ∧ (wS x.1 x.2.1 x.2.2.1 x.2.2.2 = s ∧ wE x.1 x.2.1 x.2.2.1 x.2.2.2 = 0) ∧ (∀ r ∈ x.2.2.2, Rok r) ∧ x.2.1 ≤ 9223372036854775807 := by
  obtain ⟨h1, h2⟩ := read_write s x h
  refine ⟨?_, ?_, ⟨?_, ?_⟩, ?_⟩
  · unfold rdTr; rw [h]; rfl
  · unfold rdE; rw [h]; rfl
  · unfold wS; rw [if_pos h1]; exact h2
  · unfold wE; rw [if_pos h1]
  · unfold pRead at h
    split at h
    · cases h
      exact ⟨pRuns_ok _ _, wrap_le _⟩
    · cases h
theorem text_size {c t l : Int} {L : List Rn} (h : keepB c t l L = true) : (textS c t l L).size ≤ 281474976710656 := by
  obtain ⟨_, _, _, b4, b5⟩ := keep_bd h
  have h1 := runsS_size L (catN [c, t, l, (L.length : Int)]) (fun r hr => (b5 r hr).2.2.2.2.1)
  have h2 := catN_size [c, t, l, (L.length : Int)]
  simp only [List.length_cons, List.length_nil] at h2
  unfold textS
  omega
abbrev S8 (W : World) (Y U : Nat) (v0 v1 v2 v3 u3 : Value) (w' : World) : Prop := w'.cell? ⟨Y, 0, none⟩ = some v0 ∧ w'.cell? ⟨Y, 1, none⟩ = some v1 ∧ w'.cell? ⟨Y, 2, none⟩ = some v2 ∧ w'.cell? ⟨Y, 3, none⟩ = some v3 ∧ w'.cell? ⟨U, 0, none⟩ = some v0 ∧ w'.cell? ⟨U, 1, none⟩ = some v1 ∧ w'.cell? ⟨U, 2, none⟩ = some v2 ∧ w'.cell? ⟨U, 3, none⟩ = some u3 ∧ Below W.heap.size W w'
theorem S8.of {W w' : World} {Y U : Nat} {v0 v1 v2 v3 u3 : Value} (K : Blk W Y 24 #[v0, v1, v2, v3]) (K2 : Blk W U 24 #[v0, v1, v2, u3]) (h : Below W.heap.size W w') : S8 W Y U v0 v1 v2 v3 u3 w' :=
  have k := K.over h
  have k2 := K2.over h
  ⟨k.cell 0, k.cell 1, k.cell 2, k.cell 3, k2.cell 0, k2.cell 1, k2.cell 2, k2.cell 3, h⟩
set_option maxHeartbeats 16000000 in
set_option maxRecDepth 100000 in
theorem back_law (c t l : Int) (L : List Rn) (a : Option Addr) (cp : Nat) (s : ByteArray) (w : World) (hR : Rns w a L) (hO : ∀ r ∈ L, r.t ≤ 9223372036854775807 ∧ 0 ≤ r.n ∧ r.n < 18446744073709551616) (ht : t ≤ 9223372036854775807) :
    Calls Try.prog 5 #[trackV c t l (.slice a L.length cp), .string s] w fun e w' => e = .returned (.bool true) ∧ Below w.heap.size w w' := by
  have bA := (Below.refl _ w).alloc (Nat.le_refl _) (.cells #[.int .i64 c, .int .i64 t, .int .i64 l, .slice a L.length cp] 24)
  have BA := Lib.hid bA
  have RA := Lib.hid (hR.below bA)
  have KA := Lib.hid (Blk.new w 24 #[.int .i64 c, .int .i64 t, .int .i64 l, .slice a L.length cp])
  have FW := Lib.hid (few_any c t l L a cp _ (hR.below bA))
  have hF : fewB L = true → (∀ r ∈ L, Rok r) ∧ L.length ≤ 1000 := fun h => by
    unfold fewB at h
    simp only [Bool.and_eq_true, decide_eq_true_eq, List.all_eq_true] at h
    exact ⟨fun r hr => ⟨by have := h.2 r hr; omega, hO r hr⟩, by omega⟩
  have HF := Lib.hid hF
  have F1 := Lib.hid (fun h => rd_none (s := s) h)
  have F2 := Lib.hid (fun x h => rd_some (s := s) x h)
  have HO := Lib.hid hO
  clear hR hO bA hF
  cases hf : fewB L
  · rw [hf] at FW
    unfold trackV at *
    have c0 := KA.out.cell 0
    have c1 := KA.out.cell 1
    have c2 := KA.out.cell 2
    have c3 := KA.out.cell 3
    simp only [List.getElem?_toArray, List.getElem?_cons_zero, List.getElem?_cons_succ] at c0 c1 c2 c3
    go_enter Try.func5, Try.ntmps5
    go_wp2_with fail
    refine FW.out.mono ?_
    rintro e w1 ⟨rfl, b1⟩
    have B1 := Lib.hid (BA.out.trans (b1.mono BA.out.size))
    clear b1
    go_wp2_with fail
    refine (awake_any _).mono ?_
    rintro e w2 ⟨rfl, b2⟩
    have B2 := Lib.hid (B1.out.trans (b2.mono B1.out.size))
    clear b2
    go_wp2_with fail
    go_ret
    exact ⟨rfl, B2.out⟩
  rw [hf] at FW
  by_cases hs : s.size ≤ 20000
  rotate_left
  · have hs1 : (20000 : Int) < (s.size : Int) := by omega
    unfold trackV at *
    have c0 := KA.out.cell 0
    have c1 := KA.out.cell 1
    have c2 := KA.out.cell 2
    have c3 := KA.out.cell 3
    simp only [List.getElem?_toArray, List.getElem?_cons_zero, List.getElem?_cons_succ] at c0 c1 c2 c3
    go_enter Try.func5, Try.ntmps5
    go_wp2_with fail
    refine FW.out.mono ?_
    rintro e w1 ⟨rfl, b1⟩
    have B1 := Lib.hid (BA.out.trans (b1.mono BA.out.size))
    clear b1
    go_wp2_with fail
    refine (awake_any _).mono ?_
    rintro e w2 ⟨rfl, b2⟩
    have B2 := Lib.hid (B1.out.trans (b2.mono B1.out.size))
    clear b2
    go_wp2_with fail
    go_ret
    exact ⟨rfl, B2.out⟩
  have hs1 : ¬ (20000 : Int) < (s.size : Int) := by omega
  have RD2 := Lib.hid (fun W => show Calls Try.prog 11 #[.string s] W (fun e w' => ∃ a cp, e = .returned (.tuple #[.agg #[.int .i64 (rdTr s).1, .int .i64 (rdTr s).2.1, .int .i64 (rdTr s).2.2.1, .slice a (rdTr s).2.2.2.length cp], .int .i64 (rdE s)]) ∧ Rns w' a (rdTr s).2.2.2 ∧ Below W.heap.size W w') from read_any s (by omega) W)
  have hOk := (HF.out hf).1
  have hl := (HF.out hf).2
  have C8 := Lib.hid (fun W (h : Rns W a L) => write_any (c := c) (t := t) (l := l) a cp W h hOk ht)
  unfold Wrote trackV at C8
  cases hk : keepB c t l L
  · have eS : wS c t l L = ⟨#[]⟩ := by unfold wS; rw [hk]; rfl
    have eE : wE c t l L = 1 := by unfold wE; rw [hk]; rfl
    rw [eS, eE] at C8
    clear eS eE hk hOk hl hf HF HO
    unfold trackV at *
    generalize L.length = m at *
    have c0 := KA.out.cell 0
    have c1 := KA.out.cell 1
    have c2 := KA.out.cell 2
    have c3 := KA.out.cell 3
    simp only [List.getElem?_toArray, List.getElem?_cons_zero, List.getElem?_cons_succ] at c0 c1 c2 c3
    go_enter Try.func5, Try.ntmps5
    go_wp2_with fail
    refine FW.out.mono ?_
    rintro e w1 ⟨rfl, b1⟩
    have B1 := Lib.hid (BA.out.trans (b1.mono BA.out.size))
    have K1 := Lib.hid (KA.out.over b1)
    have R1 := Lib.hid (RA.out.below b1)
    clear b1 c0 c1 c2 c3
    have c0 := K1.out.cell 0
    have c1 := K1.out.cell 1
    have c2 := K1.out.cell 2
    have c3 := K1.out.cell 3
    simp only [List.getElem?_toArray, List.getElem?_cons_zero, List.getElem?_cons_succ] at c0 c1 c2 c3
    go_wp2_with fail
    refine (C8.out _ R1.out).mono ?_
    rintro e w2 ⟨rfl, b2⟩
    have B2 := Lib.hid (B1.out.trans (b2.mono B1.out.size))
    clear b2 c0 c1 c2 c3
    go_wp2_with fail
    refine (RD2.out _).mono ?_
    rintro e w5 ⟨a5, cp5, rfl, r5, b5⟩
    have B5 := Lib.hid (B2.out.trans (b5.mono B2.out.size))
    have R5 := Lib.hid r5
    clear b5 r5
    cases hx : pRead s with
    | none =>
      obtain ⟨e1, e2⟩ := F1.out hx
      have E1 := Lib.hid e1
      have E2 := Lib.hid e2
      clear e1 e2 hx
      simp only [E1.out, E2.out]
      have k6 := Blk.new w5 24 #[.int .i64 0, .int .i64 0, .int .i64 0, .slice a5 0 cp5]
      have B6 := Lib.hid (B5.out.alloc B5.out.size (.cells #[.int .i64 0, .int .i64 0, .int .i64 0, .slice a5 0 cp5] 24))
      have K6 := Lib.hid k6
      clear k6
      go_wp2_with fail
      refine (awake_any _).mono ?_
      rintro e w7 ⟨rfl, b7⟩
      have B7 := Lib.hid (B6.out.trans (b7.mono B6.out.size))
      have y0 : w7.cell? ⟨w5.heap.size, 0, none⟩ = some (.int .i64 0) := (K6.out.over b7).cell 0
      have y3 : w7.cell? ⟨w5.heap.size, 3, none⟩ = some (.slice a5 0 cp5) := (K6.out.over b7).cell 3
      clear b7
      go_wp2_with fail
      go_ret
      exact ⟨ret_bool (by simp), B7.out⟩
    | some x =>
      obtain ⟨e1, e2, e3, e4⟩ := F2.out x hx
      have E2 := Lib.hid e2
      have WS := Lib.hid e3
      rw [e1] at R5
      have O5 := Lib.hid e4
      simp only [e1, E2.out]
      clear e1 e2 e3 e4 hx
      obtain ⟨xc, xt, xl, xL⟩ := x
      simp only at R5 WS O5 ⊢
      have W5 := Lib.hid (fun W (h : Rns W a5 xL) => show Calls Try.prog 8 #[.agg #[.int .i64 xc, .int .i64 xt, .int .i64 xl, .slice a5 xL.length cp5]] W _ from write_any (c := xc) (t := xt) (l := xl) a5 cp5 W h O5.out.1 O5.out.2)
      unfold Wrote at W5
      rw [WS.out.1, WS.out.2] at W5
      generalize xL.length = mx at *
      have k6 := Blk.new w5 24 #[.int .i64 xc, .int .i64 xt, .int .i64 xl, .slice a5 mx cp5]
      have B6 := Lib.hid (B5.out.alloc B5.out.size (.cells #[.int .i64 xc, .int .i64 xt, .int .i64 xl, .slice a5 mx cp5] 24))
      have R6 := Lib.hid (R5.out.below ((Below.refl w5.heap.size w5).alloc (Nat.le_refl _) (.cells #[.int .i64 xc, .int .i64 xt, .int .i64 xl, .slice a5 mx cp5] 24)))
      have y0 : (w5.alloc (.cells #[.int .i64 xc, .int .i64 xt, .int .i64 xl, .slice a5 mx cp5] 24)).cell? ⟨w5.heap.size, 0, none⟩ = some (.int .i64 xc) := k6.cell 0
      have y1 : (w5.alloc (.cells #[.int .i64 xc, .int .i64 xt, .int .i64 xl, .slice a5 mx cp5] 24)).cell? ⟨w5.heap.size, 1, none⟩ = some (.int .i64 xt) := k6.cell 1
      have y2 : (w5.alloc (.cells #[.int .i64 xc, .int .i64 xt, .int .i64 xl, .slice a5 mx cp5] 24)).cell? ⟨w5.heap.size, 2, none⟩ = some (.int .i64 xl) := k6.cell 2
      have y3 : (w5.alloc (.cells #[.int .i64 xc, .int .i64 xt, .int .i64 xl, .slice a5 mx cp5] 24)).cell? ⟨w5.heap.size, 3, none⟩ = some (.slice a5 mx cp5) := k6.cell 3
      clear k6
      go_wp2_with fail
      refine (W5.out _ R6.out).mono ?_
      rintro e w7 ⟨rfl, b7⟩
      have B7 := Lib.hid (B6.out.trans (b7.mono B6.out.size))
      clear b7 y0 y1 y2 y3
      go_wp2_with fail
      refine (awake_any _).mono ?_
      rintro e w8 ⟨rfl, b8⟩
      have B8 := Lib.hid (B7.out.trans (b8.mono B7.out.size))
      clear b8
      go_wp2_with fail
      go_ret
      exact ⟨ret_bool (by simp), B8.out⟩

  · have eS : wS c t l L = textS c t l L := by unfold wS; rw [hk]; rfl
    have eE : wE c t l L = 0 := by unfold wE; rw [hk]; rfl
    rw [eS, eE] at C8
    have hwr := write_read hk ht HO.out
    have RD1 := Lib.hid (fun W => show Calls Try.prog 11 #[.string (textS c t l L)] W (fun e w' => ∃ a cp, e = .returned (.tuple #[.agg #[.int .i64 c, .int .i64 t, .int .i64 l, .slice a L.length cp], .int .i64 0]) ∧ Rns w' a L ∧ Below W.heap.size W w') from by
      have h := read_any (textS c t l L) (text_size hk) W
      unfold Readd at h
      have e1 : rdTr (textS c t l L) = (c, t, l, L) := by unfold rdTr; rw [hwr]; rfl
      have e2 : rdE (textS c t l L) = 0 := by unfold rdE; rw [hwr]; rfl
      rw [e1, e2] at h
      exact h)
    have C10 := Lib.hid (fun a' cp' W (h : Rns W a' L) => show Calls Try.prog 10 #[.agg #[.int .i64 c, .int .i64 t, .int .i64 l, .slice a' L.length cp']] W (fun e w' => ∃ p cp, e = .returned (.agg #[.int .i64 c, .int .i64 t, .int .i64 l, .slice p L.length cp]) ∧ Rns w' p L ∧ Below W.heap.size W w') from cnv_any c t l a' cp' L W hl h)
    have C13 := Lib.hid (fun a' cp' a2 cp2 W (h : Rns W a' L) (h2 : Rns W a2 L) => show Calls Try.prog 13 #[.agg #[.int .i64 c, .int .i64 t, .int .i64 l, .slice a' L.length cp'], .agg #[.int .i64 c, .int .i64 t, .int .i64 l, .slice a2 L.length cp2]] W (fun e w' => e = .returned (.bool true) ∧ Below W.heap.size W w') from same_any c t l L a' a2 cp' cp2 W h h2 (by omega) (fun r hr => (hOk r hr).1))
    clear eS eE hk hOk hl hf HF HO hwr
    unfold trackV at *
    generalize textS c t l L = TS at *
    generalize L.length = m at *
    have c0 := KA.out.cell 0
    have c1 := KA.out.cell 1
    have c2 := KA.out.cell 2
    have c3 := KA.out.cell 3
    simp only [List.getElem?_toArray, List.getElem?_cons_zero, List.getElem?_cons_succ] at c0 c1 c2 c3
    generalize hY : w.heap.size = Y at *
    go_enter Try.func5, Try.ntmps5
    go_wp2_with fail
    refine FW.out.mono ?_
    rintro e w1 ⟨rfl, b1⟩
    have B1 := Lib.hid (BA.out.trans (b1.mono (by rw [← hY]; exact BA.out.size)))
    have K1 := Lib.hid (KA.out.over b1)
    have R1 := Lib.hid (RA.out.below b1)
    clear b1 c0 c1 c2 c3
    have c0 := K1.out.cell 0
    have c1 := K1.out.cell 1
    have c2 := K1.out.cell 2
    have c3 := K1.out.cell 3
    simp only [List.getElem?_toArray, List.getElem?_cons_zero, List.getElem?_cons_succ] at c0 c1 c2 c3
    go_wp2_with fail
    refine (C8.out _ R1.out).mono ?_
    rintro e w2 ⟨rfl, b2⟩
    have B2 := Lib.hid (B1.out.trans (b2.mono (by rw [← hY]; exact B1.out.size)))
    have K2 := Lib.hid (K1.out.over b2)
    have R2 := Lib.hid (R1.out.below b2)
    clear b2 c0 c1 c2 c3
    go_wp2_with fail
    refine (RD1.out _).mono ?_
    rintro e w3 ⟨a3, cp3, rfl, r3, b3⟩
    have q4 := (Below.refl w3.heap.size w3).alloc (Nat.le_refl _) (.cells #[.int .i64 c, .int .i64 t, .int .i64 l, .slice a3 m cp3] 24)
    have B3 := Lib.hid (B2.out.trans (b3.mono (by rw [← hY]; exact B2.out.size)))
    have B4 := Lib.hid (B3.out.trans (q4.mono (by rw [← hY]; exact B3.out.size)))
    have K4 := Lib.hid ((K2.out.over b3).over q4)
    have RT4 := Lib.hid ((R2.out.below b3).below q4)
    have RU4 := Lib.hid (r3.below q4)
    have KU4 := Lib.hid (Blk.new w3 24 #[.int .i64 c, .int .i64 t, .int .i64 l, .slice a3 m cp3])
    clear b3 r3 q4 K2 R2 B2 K1 R1 B1
    go_wp2_with fail
    generalize w3.alloc (.cells #[.int .i64 c, .int .i64 t, .int .i64 l, .slice a3 m cp3] 24) = W at *
    generalize w3.heap.size = U at *
    have S1 := S8.of K4.out KU4.out ((Below.refl W.heap.size W).drew)
    have CU := Lib.hid (fun X (b : Below W.heap.size W X) => C10.out a3 cp3 X (RU4.out.below b))
    have CT := Lib.hid (fun X (b : Below W.heap.size W X) => C10.out a cp X (RT4.out.below b))
    go_region_held3 (fun w' => w'.cell? ⟨Y, 0, none⟩ = some (.int .i64 c) ∧ w'.cell? ⟨Y, 1, none⟩ = some (.int .i64 t) ∧ w'.cell? ⟨Y, 2, none⟩ = some (.int .i64 l) ∧ w'.cell? ⟨Y, 3, none⟩ = some (.slice a m cp) ∧ w'.cell? ⟨U, 0, none⟩ = some (.int .i64 c) ∧ w'.cell? ⟨U, 1, none⟩ = some (.int .i64 t) ∧ w'.cell? ⟨U, 2, none⟩ = some (.int .i64 l) ∧ w'.cell? ⟨U, 3, none⟩ = some (.slice a3 m cp3) ∧ Below W.heap.size W w')
      (first | (with_reducible exact S1) | (refine S8.of K4.out KU4.out ?_; (repeat (with_reducible first | assumption | exact Below.refl _ _ | refine Below.drew ?_ | refine belowAlloc ?_ _)); done))
      (first
        | (go_at_call 13; refine (C13.out _ _ _ _ _ (show Rns _ _ L from r7) (show Rns _ _ L from r8)).mono ?_; rintro e w9 ⟨rfl, b9⟩; have d9 : Below W.heap.size W w9 := belowTrans (by (repeat (with_reducible first | assumption | exact Below.refl _ _ | refine Below.drew ?_ | refine belowAlloc ?_ _))) b9)
        | (go_at_call 10; with_reducible refine (CU.out _ (by (repeat (with_reducible first | assumption | exact Below.refl _ _ | refine Below.drew ?_ | refine belowAlloc ?_ _)))).mono ?_; rintro e w7 ⟨p7, cp7, rfl, r7, b7⟩; have d7 : Below W.heap.size W w7 := belowTrans (by (repeat (with_reducible first | assumption | exact Below.refl _ _ | refine Below.drew ?_ | refine belowAlloc ?_ _))) b7)
        | (go_at_call 10; with_reducible refine (CT.out _ (by (repeat (with_reducible first | assumption | exact Below.refl _ _ | refine Below.drew ?_ | refine belowAlloc ?_ _)))).mono ?_; rintro e w8 ⟨p8, cp8, rfl, r8, b8⟩; have d8 : Below W.heap.size W w8 := belowTrans (by (repeat (with_reducible first | assumption | exact Below.refl _ _ | refine Below.drew ?_ | refine belowAlloc ?_ _))) b8; replace r7 := Rns.below (show Rns _ p7 L from r7) b8))
    have B9 := Lib.hid (B4.out.trans (d9.mono (by rw [← hY]; exact B4.out.size)))
    clear d7 d8 d9 b7 b8 b9 r7 r8 S1 CU CT C10 C13
    subst hY
    go_wp2_with fail
    refine (RD2.out _).mono ?_
    rintro e w5 ⟨a5, cp5, rfl, r5, b5⟩
    have B5 := Lib.hid (B9.out.trans (b5.mono B9.out.size))
    have R5 := Lib.hid r5
    clear b5 r5
    cases hx : pRead s with
    | none =>
      obtain ⟨e1, e2⟩ := F1.out hx
      have E1 := Lib.hid e1
      have E2 := Lib.hid e2
      clear e1 e2 hx
      simp only [E1.out, E2.out]
      have k6 := Blk.new w5 24 #[.int .i64 0, .int .i64 0, .int .i64 0, .slice a5 0 cp5]
      have B6 := Lib.hid (B5.out.alloc B5.out.size (.cells #[.int .i64 0, .int .i64 0, .int .i64 0, .slice a5 0 cp5] 24))
      have K6 := Lib.hid k6
      clear k6
      go_wp2_with fail
      refine (awake_any _).mono ?_
      rintro e w7 ⟨rfl, b7⟩
      have B7 := Lib.hid (B6.out.trans (b7.mono B6.out.size))
      have y0 : w7.cell? ⟨w5.heap.size, 0, none⟩ = some (.int .i64 0) := (K6.out.over b7).cell 0
      have y3 : w7.cell? ⟨w5.heap.size, 3, none⟩ = some (.slice a5 0 cp5) := (K6.out.over b7).cell 3
      clear b7
      go_wp2_with fail
      go_ret
      exact ⟨ret_bool (by simp), B7.out⟩
    | some x =>
      obtain ⟨e1, e2, e3, e4⟩ := F2.out x hx
      have E2 := Lib.hid e2
      have WS := Lib.hid e3
      rw [e1] at R5
      have O5 := Lib.hid e4
      simp only [e1, E2.out]
      clear e1 e2 e3 e4 hx
      obtain ⟨xc, xt, xl, xL⟩ := x
      simp only at R5 WS O5 ⊢
      have W5 := Lib.hid (fun W (h : Rns W a5 xL) => show Calls Try.prog 8 #[.agg #[.int .i64 xc, .int .i64 xt, .int .i64 xl, .slice a5 xL.length cp5]] W _ from write_any (c := xc) (t := xt) (l := xl) a5 cp5 W h O5.out.1 O5.out.2)
      unfold Wrote at W5
      rw [WS.out.1, WS.out.2] at W5
      generalize xL.length = mx at *
      have k6 := Blk.new w5 24 #[.int .i64 xc, .int .i64 xt, .int .i64 xl, .slice a5 mx cp5]
      have B6 := Lib.hid (B5.out.alloc B5.out.size (.cells #[.int .i64 xc, .int .i64 xt, .int .i64 xl, .slice a5 mx cp5] 24))
      have R6 := Lib.hid (R5.out.below ((Below.refl w5.heap.size w5).alloc (Nat.le_refl _) (.cells #[.int .i64 xc, .int .i64 xt, .int .i64 xl, .slice a5 mx cp5] 24)))
      have y0 : (w5.alloc (.cells #[.int .i64 xc, .int .i64 xt, .int .i64 xl, .slice a5 mx cp5] 24)).cell? ⟨w5.heap.size, 0, none⟩ = some (.int .i64 xc) := k6.cell 0
      have y1 : (w5.alloc (.cells #[.int .i64 xc, .int .i64 xt, .int .i64 xl, .slice a5 mx cp5] 24)).cell? ⟨w5.heap.size, 1, none⟩ = some (.int .i64 xt) := k6.cell 1
      have y2 : (w5.alloc (.cells #[.int .i64 xc, .int .i64 xt, .int .i64 xl, .slice a5 mx cp5] 24)).cell? ⟨w5.heap.size, 2, none⟩ = some (.int .i64 xl) := k6.cell 2
      have y3 : (w5.alloc (.cells #[.int .i64 xc, .int .i64 xt, .int .i64 xl, .slice a5 mx cp5] 24)).cell? ⟨w5.heap.size, 3, none⟩ = some (.slice a5 mx cp5) := k6.cell 3
      clear k6
      go_wp2_with fail
      refine (W5.out _ R6.out).mono ?_
      rintro e w7 ⟨rfl, b7⟩
      have B7 := Lib.hid (B6.out.trans (b7.mono B6.out.size))
      clear b7 y0 y1 y2 y3
      go_wp2_with fail
      refine (awake_any _).mono ?_
      rintro e w8 ⟨rfl, b8⟩
      have B8 := Lib.hid (B7.out.trans (b8.mono B7.out.size))
      clear b8
      go_wp2_with fail
      go_ret
      exact ⟨ret_bool (by simp), B8.out⟩

end Go.Proofs.Ytifdljdnpdefgaa
