/-
  EventBack: for every input the law returns true: what is written of an event is read as it was, and what is read is just what is written; each argument reads behind the call as it read before. No condition.
-/
import Derived.Test.YtgenefamhhncbaaOpe
import Derived.Test.YtgenefamhhncbaaRlaw
import Derived.Test.YtgenefamhhncbaaEnc1
namespace Go.Proofs.Ytgenefamhhncbaa
open Go.RowKit
theorem codeF_idem (L : List Fld) : (L.map codeF).map codeF = L.map codeF := by
  rw [List.map_map]
  apply List.map_congr_left
  intro x _
  show codeF (codeF x) = codeF x
  unfold codeF codeV
  simp only
  rw [Bt.codeN_idem]
theorem unz_wf {n : Nat} (h : n < 18446744073709551616) : -9223372036854775808 ≤ Bt.unz n ∧ Bt.unz n ≤ 9223372036854775807 := by
  unfold Bt.unz
  split <;> omega
theorem w64_wf {n : Nat} (h : n < 18446744073709551616) : -9223372036854775808 ≤ w64 n ∧ w64 n ≤ 9223372036854775807 := by
  by_cases h1 : n < 9223372036854775808
  · rw [w64_small h1]; omega
  · rw [w64_big (by omega) h]; omega
theorem tk_cases {α : Type} (z : α) (s : ByteArray) (e : Int) (r : α × Nat × Int) : (Bt.tk z s e r).1 = z ∨ (Bt.tk z s e r).1 = r.1 := by
  unfold Bt.tk
  split
  · exact Or.inl rfl
  · split
    · exact Or.inl rfl
    · exact Or.inr rfl
theorem tInt_wf (s : ByteArray) (e : Int) : -9223372036854775808 ≤ (Bt.tInt s e).1 ∧ (Bt.tInt s e).1 ≤ 9223372036854775807 := by
  rcases tk_cases 0 s e (Bt.rdInt s.data.toList) with h | h
  · have h : (Bt.tInt s e).1 = 0 := h
    omega
  · have h : (Bt.tInt s e).1 = Bt.unz (Bt.rdNum s.data.toList).1 := h
    rw [h]
    exact unz_wf (Bt.rdNum_facts _).1
theorem tReal_wf (s : ByteArray) (e : Int) : (Bt.tReal s e).1 < 18446744073709551616 := by
  rcases tk_cases 0 s e (Bt.rdReal s.data.toList) with h | h
  · have h : (Bt.tReal s e).1 = 0 := h
    omega
  · have h : (Bt.tReal s e).1 = (Bt.rdReal s.data.toList).1 := h
    rw [h]
    unfold Bt.rdReal
    split
    · decide
    · split
      · decide
      · exact Bt.joinN_u64 _ (by rw [List.length_take]; omega)
theorem tVal_wf (s : ByteArray) (e : Int) : (tVal s e).1.Wf := by
  have hk := w64_wf (Bt.tNum_lt s e)
  unfold tVal valAt
  split
  · have := tInt_wf (Bt.tNum s e).2.1 (Bt.tNum s e).2.2
    exact ⟨hk, this.1, this.2, by show 0 < 18446744073709551616; decide⟩
  · split
    · exact ⟨hk, by show (-9223372036854775808 : Int) ≤ 0; decide, by show (0 : Int) ≤ 9223372036854775807; decide, tReal_wf _ _⟩
    · split
      · exact ⟨hk, by show (-9223372036854775808 : Int) ≤ 0; decide, by show (0 : Int) ≤ 9223372036854775807; decide, by show 0 < 18446744073709551616; decide⟩
      · exact ⟨hk, by show (-9223372036854775808 : Int) ≤ 0; decide, by show (0 : Int) ≤ 9223372036854775807; decide, by show 0 < 18446744073709551616; decide⟩
theorem dFlds_wf (s : ByteArray) (e : Int) : ∀ j, ∀ x ∈ (dFlds tVal s e j).1, x.v.Wf
  | 0, x, hx => by cases hx
  | j + 1, x, hx => by
    have hx : x ∈ (dFlds tVal s e j).1 ++ [_] := hx
    rcases List.mem_append.1 hx with hx | hx
    · exact dFlds_wf s e j x hx
    · rw [List.mem_singleton] at hx
      subst hx
      exact tVal_wf _ _
/-- what is decoded, by whether it may be -/
theorem dec_yes {s : ByteArray} (h : okC s = true) (hs : s.size ≤ 281474976710656) : ∃ a b c k L, decC s = ⟨a, b, c, k, L⟩ ∧ decE s = 0 ∧ chkB a b c k L = true ∧ evS a b c k L = s ∧ L.length ≤ 8 ∧ k.size ≤ 16 ∧ (∀ x ∈ L, x.v.Wf) ∧ (∀ x ∈ L, x.nm.size ≤ 9223372036854775807 ∧ x.v.s.size ≤ 281474976710656) := by
  refine ⟨_, _, _, _, _, by unfold decC; rw [if_pos h], by unfold decE; rw [if_pos h], ?_, dec_back h, ?_, ?_, fun x hx => dFlds_wf _ _ _ x hx, fun x hx => ?_⟩
  · unfold okC at h
    simp only [Bool.and_eq_true] at h
    exact h.2.2
  · have := decC_len s
    unfold decC at this
    rw [if_pos h] at this
    exact this
  · unfold okC at h
    simp only [Bool.and_eq_true] at h
    exact (chk_facts h.2.2).2.2.2.1
  · have z := (dFlds_size tVal_size (d5 s).2.1 (d5 s).2.2 (d5 s).1).2 x hx
    have z1 : (d1 s).2.1.size ≤ s.size := tk_size _ _ _ _
    have z2 : (d2 s).2.1.size ≤ (d1 s).2.1.size := tk_size _ _ _ _
    have z3 : (d3 s).2.1.size ≤ (d2 s).2.1.size := tk_size _ _ _ _
    have z4 : (d4 s).2.1.size ≤ (d3 s).2.1.size := tk_size _ _ _ _
    have z5 : (d5 s).2.1.size ≤ (d4 s).2.1.size := tk_size _ _ _ _
    omega
theorem dec_no {s : ByteArray} (h : okC s = false) : decC s = evNil ∧ decE s = 3 := by
  unfold decC decE; rw [h]; exact ⟨rfl, rfl⟩
theorem dec_enc {a b c : Int} {k : ByteArray} {L : List Fld} (h : chkB a b c k L = true) (hw : ∀ x ∈ L, x.v.Wf) : decC (evS a b c k L) = ⟨a, b, c, k, L.map codeF⟩ ∧ decE (evS a b c k L) = 0 ∧ (evS a b c k L).size ≤ 281474976710656 := by
  obtain ⟨h1, h2, h3, h4, h5, h6⟩ := dec_was h hw
  obtain ⟨_, _, _, hk, hl, hf⟩ := chk_facts h
  refine ⟨by unfold decC; rw [if_pos h1, h2, h3, h4, h5, h6], by unfold decE; rw [if_pos h1], ?_⟩
  unfold evS
  rw [ba_size]
  have s1 := headS_size a b c (L.length : Int) hk
  have s2 := fldsS_size (l := L) (fun x hx => by
    obtain ⟨i, hi, rfl⟩ := List.mem_iff_getElem.1 hx
    exact fldS_size (hf i hi).1 (hf i hi).2.2.1)
  omega
/-- Decode as it is met -/
theorem dec_met {s : ByteArray} {a b c er : Int} {k : ByteArray} {L : List Fld} (h1 : decC s = ⟨a, b, c, k, L⟩) (h2 : decE s = er) (hs : s.size ≤ 281474976710656) (W : World) :
    Calls Try.prog 18 #[.string s] W (fun e w' => ∃ p cp, e = .returned (.tuple #[.agg #[.int .i64 a, .int .i64 b, .int .i64 c, .string k, .slice p L.length cp], .int .i64 er]) ∧ Flds w' p L ∧ Below W.heap.size W w') := by
  have := decode_any s hs W
  rw [h1, h2] at this
  exact this
set_option maxHeartbeats 8000000 in
set_option maxRecDepth 100000 in
theorem back_law (a b c : Int) (k s : ByteArray) (p : Option Addr) (cp : Nat) (L : List Fld) (w : World) (hl : L.length ≤ 9223372036854775807) (hk : k.size ≤ 9223372036854775807) (hs : s.size ≤ 9223372036854775807) (hx : Flds w p L) (hS : ∀ x ∈ L, x.nm.size ≤ 9223372036854775807 ∧ x.v.s.size ≤ 281474976710656) (hW : ∀ x ∈ L, x.v.Wf) :
    Calls Try.prog 6 #[evV a b c k (.slice p L.length cp), .string s] w fun e w' => e = .returned (.bool true) ∧ Below w.heap.size w w' := by
  obtain ⟨w1, hw1, K1, B1, hs1⟩ : ∃ w1, w1 = w.alloc (.cells #[.int .i64 a, .int .i64 b, .int .i64 c, .string k, .slice p L.length cp] 24) ∧ Blk w1 w.heap.size 24 #[.int .i64 a, .int .i64 b, .int .i64 c, .string k, .slice p L.length cp] ∧ Below w.heap.size w w1 ∧ w1.heap.size = w.heap.size + 1 :=
    ⟨_, rfl, heap_alloc_new w _, (Below.refl _ w).alloc (Nat.le_refl _) _, by simp⟩
  have W1 := Lib.hid hw1
  have B1h := Lib.hid B1
  have K1h := Lib.hid K1
  have HX := Lib.hid hx
  have HS := Lib.hid hS
  have HW := Lib.hid hW
  have e0 : w1.cell? ⟨w.heap.size, 0, none⟩ = some (.int .i64 a) := K1.cell 0
  have e1 : w1.cell? ⟨w.heap.size, 1, none⟩ = some (.int .i64 b) := K1.cell 1
  have e2 : w1.cell? ⟨w.heap.size, 2, none⟩ = some (.int .i64 c) := K1.cell 2
  have e3 : w1.cell? ⟨w.heap.size, 3, none⟩ = some (.string k) := K1.cell 3
  have e4 : w1.cell? ⟨w.heap.size, 4, none⟩ = some (.slice p L.length cp) := K1.cell 4
  clear hw1 B1 K1 hx hS hW
  by_cases h100 : L.length ≤ 100
  · have h100i : ¬ (100 : Int) < (L.length : Int) := by omega
    by_cases h5 : s.size ≤ 5000
    · have h5i : ¬ (5000 : Int) < (s.size : Int) := by omega
      have CC := Lib.hid (encode_any a b c k p cp L w1 h100 hk (HX.out.below B1h.out) HS.out HW.out)
      cases hq : chkB a b c k L
      · rw [hq] at CC
        unfold evV at CC ⊢
        have CC : Hid (Calls Try.prog 16 #[.agg #[.int .i64 a, .int .i64 b, .int .i64 c, .string k, .slice p L.length cp]] w1 fun e w' => e = .returned (.tuple #[.string ⟨#[]⟩, .int .i64 1]) ∧ Below w1.heap.size w1 w') := CC
        clear hq HX HS HW K1h
        generalize L.length = n at *
        generalize hy : w.heap.size = Y at *
        go_enter Try.func6, Try.ntmps6
        go_wp2_with fail
        rw [← W1.out]
        go_wp2_with fail
        refine CC.out.mono ?_
        rintro e w2 ⟨rfl, b2⟩
        have BB : Hid (Below Y w w2) := Lib.hid (B1h.out.trans (b2.mono (by omega)))
        clear b2 e0 e1 e2 e3 e4
        by_cases ho : okC s = true
        · obtain ⟨a', b', c', k', L', hD, hE, hC, hS', hl8, hk16, hWf, hSz⟩ := dec_yes ho (by omega)
          have DS := Lib.hid (fun W => dec_met hD hE (by omega) W)
          have EN := Lib.hid (fun p cp W (hx : Flds W p L') => encode_any a' b' c' k' p cp L' W (by omega) (by omega) hx hSz hWf)
          rw [hC, if_pos rfl, hS'] at EN
          unfold evV at EN
          have EN : Hid (∀ p cp W, Flds W p L' → Calls Try.prog 16 #[.agg #[.int .i64 a', .int .i64 b', .int .i64 c', .string k', .slice p L'.length cp]] W fun e w' => e = .returned (.tuple #[.string s, .int .i64 0]) ∧ Below W.heap.size W w') := EN
          clear hD hE hC hS' hWf hSz ho
          generalize L'.length = n' at *
          go_wp2_with fail
          refine (DS.out _).mono ?_
          rintro e v1 ⟨p', cp', rfl, G1, g1⟩
          obtain ⟨v2, hv2, J2, G2, C2⟩ : ∃ v2, v2 = v1.alloc (.cells #[.int .i64 a', .int .i64 b', .int .i64 c', .string k', .slice p' n' cp'] 24) ∧ Blk v2 v1.heap.size 24 #[.int .i64 a', .int .i64 b', .int .i64 c', .string k', .slice p' n' cp'] ∧ Flds v2 p' L' ∧ Below Y w v2 :=
            ⟨_, rfl, heap_alloc_new v1 _, G1.below ((Below.refl _ _).alloc (Nat.le_refl _) _), (BB.out.trans (g1.mono (by have := BB.out.size; omega))).alloc (by have := BB.out.size; have := g1.size; omega) _⟩
          have V2 := Lib.hid hv2
          have G2h := Lib.hid G2
          have C2h := Lib.hid C2
          have j0 : v2.cell? ⟨v1.heap.size, 0, none⟩ = some (.int .i64 a') := J2.cell 0
          have j1 : v2.cell? ⟨v1.heap.size, 1, none⟩ = some (.int .i64 b') := J2.cell 1
          have j2 : v2.cell? ⟨v1.heap.size, 2, none⟩ = some (.int .i64 c') := J2.cell 2
          have j3 : v2.cell? ⟨v1.heap.size, 3, none⟩ = some (.string k') := J2.cell 3
          have j4 : v2.cell? ⟨v1.heap.size, 4, none⟩ = some (.slice p' n' cp') := J2.cell 4
          clear hv2 J2 G2 C2 G1 g1
          go_wp2_with fail
          rw [← V2.out]
          refine (EN.out _ _ _ G2h.out).mono ?_
          rintro e v3 ⟨rfl, g3⟩
          have C3h : Hid (Below Y w v3) := Lib.hid (C2h.out.trans (g3.mono (by have := C2h.out.size; omega)))
          clear g3 j0 j1 j2 j3 j4
          go_wp2_with fail
          refine (awake_any _).mono ?_
          rintro e v4 ⟨rfl, g4⟩
          have C4h : Hid (Below Y w v4) := Lib.hid (C3h.out.trans (g4.mono (by have := C3h.out.size; omega)))
          clear g4
          go_wp2_with fail
          go_ret
          exact ⟨ret_bool (by simp), C4h.out⟩
        · obtain ⟨hD, hE⟩ := dec_no (s := s) (by simpa using ho)
          have DS := Lib.hid (fun W => dec_met hD hE (by omega) W)
          have DS : Hid (∀ W, Calls Try.prog 18 #[.string s] W (fun e w' => ∃ p cp, e = .returned (.tuple #[.agg #[.int .i64 0, .int .i64 0, .int .i64 0, .string ⟨#[]⟩, .slice p 0 cp], .int .i64 3]) ∧ Flds w' p [] ∧ Below W.heap.size W w')) := DS
          have RZ := Lib.hid (fun p cp W (hx : Flds W p []) => show Calls Try.prog 15 #[.agg #[.int .i64 0, .int .i64 0, .int .i64 0, .string ⟨#[]⟩, .slice p 0 cp]] W (fun e w' => ∃ p' cp', e = .returned (.agg #[.int .i64 0, .int .i64 0, .int .i64 0, .string ⟨#[]⟩, .slice p' 0 cp']) ∧ Flds w' p' [] ∧ Below W.heap.size W w') from ref_any 0 0 0 ⟨#[]⟩ p cp [] W (by decide) hx)
          have SZ := Lib.hid (fun p cp W (hx : Flds W p []) => show Calls Try.prog 20 #[.agg #[.int .i64 0, .int .i64 0, .int .i64 0, .string ⟨#[]⟩, .slice p 0 cp], .agg #[.int .i64 0, .int .i64 0, .int .i64 0, .string ⟨#[]⟩, .slice none 0 0]] W (fun e w' => e = .returned (.bool true) ∧ Below W.heap.size W w') from same_any 0 0 0 ⟨#[]⟩ p none cp 0 [] [] W (by decide) hx (fun i hi => (Nat.not_lt_zero i hi).elim) rfl)
          clear hD hE ho
          go_wp2_with fail
          refine (DS.out _).mono ?_
          rintro e v1 ⟨p', cp', rfl, G1, g1⟩
          obtain ⟨v2, hv2, J2, G2, C2⟩ : ∃ v2, v2 = v1.alloc (.cells #[.int .i64 0, .int .i64 0, .int .i64 0, .string ⟨#[]⟩, .slice p' 0 cp'] 24) ∧ Blk v2 v1.heap.size 24 #[.int .i64 0, .int .i64 0, .int .i64 0, .string ⟨#[]⟩, .slice p' 0 cp'] ∧ Flds v2 p' [] ∧ Below Y w v2 :=
            ⟨_, rfl, heap_alloc_new v1 _, G1.below ((Below.refl _ _).alloc (Nat.le_refl _) _), (BB.out.trans (g1.mono (by have := BB.out.size; omega))).alloc (by have := BB.out.size; have := g1.size; omega) _⟩
          have V2 := Lib.hid hv2
          have G2h := Lib.hid G2
          have C2h := Lib.hid C2
          have J2h := Lib.hid J2
          clear hv2 J2 G2 C2 G1 g1
          go_wp2_with fail
          rw [← V2.out]
          generalize v1.heap.size = Q at *
          refine (awake_any _).mono ?_
          rintro e v3 ⟨rfl, g3⟩
          have J3 := J2h.out.below g3
          have G3h := Lib.hid (G2h.out.below g3)
          have C3h : Hid (Below Y w v3) := Lib.hid (C2h.out.trans (g3.mono (by have := C2h.out.size; omega)))
          have j0 : v3.cell? ⟨Q, 0, none⟩ = some (.int .i64 0) := J3.cell 0
          have j1 : v3.cell? ⟨Q, 1, none⟩ = some (.int .i64 0) := J3.cell 1
          have j2 : v3.cell? ⟨Q, 2, none⟩ = some (.int .i64 0) := J3.cell 2
          have j3 : v3.cell? ⟨Q, 3, none⟩ = some (.string ⟨#[]⟩) := J3.cell 3
          have j4 : v3.cell? ⟨Q, 4, none⟩ = some (.slice p' 0 cp') := J3.cell 4
          clear g3 J3
          go_wp2_with fail
          refine (RZ.out _ _ _ G3h.out).mono ?_
          rintro e v4 ⟨p4, cp4, rfl, G4, g4⟩
          have G4h := Lib.hid G4
          have C4h : Hid (Below Y w v4) := Lib.hid (C3h.out.trans (g4.mono (by have := C3h.out.size; omega)))
          clear g4 G4 j0 j1 j2 j3 j4
          go_wp2_with fail
          refine (SZ.out _ _ _ G4h.out).mono ?_
          rintro e v5 ⟨rfl, g5⟩
          have C5h : Hid (Below Y w v5) := Lib.hid (C4h.out.trans (g5.mono (by have := C4h.out.size; omega)))
          clear g5
          go_wp2_with fail
          go_ret
          exact ⟨rfl, C5h.out⟩
      · rw [hq] at CC
        obtain ⟨hD, hE, hZ⟩ := dec_enc hq HW.out
        have DT := Lib.hid (fun W => dec_met hD hE hZ W)
        rw [List.length_map] at DT
        unfold evV at CC ⊢
        have CC : Hid (Calls Try.prog 16 #[.agg #[.int .i64 a, .int .i64 b, .int .i64 c, .string k, .slice p L.length cp]] w1 fun e w' => e = .returned (.tuple #[.string (evS a b c k L), .int .i64 0]) ∧ Below w1.heap.size w1 w') := CC
        have RF := Lib.hid (fun W (hb : Below w.heap.size w W) => show Calls Try.prog 15 #[.agg #[.int .i64 a, .int .i64 b, .int .i64 c, .string k, .slice p L.length cp]] W (fun e w' => ∃ p' cp', e = .returned (.agg #[.int .i64 a, .int .i64 b, .int .i64 c, .string k, .slice p' L.length cp']) ∧ Flds w' p' L ∧ Below W.heap.size W w') from ref_any a b c k p cp L W h100 (HX.out.below hb))
        have RX := Lib.hid (fun p cp W (hx : Flds W p (L.map codeF)) => ref_any a b c k p cp (L.map codeF) W (by rw [List.length_map]; exact h100) hx)
        unfold Refd evV at RX
        rw [List.length_map] at RX
        have SM := Lib.hid (fun p cp q cq W (hx : Flds W p (L.map codeF)) (hz : Flds W q L) => same_any a b c k p q cp cq (L.map codeF) L W (by rw [List.length_map]; exact h100) hx hz (codeF_idem L))
        unfold evV at SM
        rw [List.length_map] at SM
        generalize evS a b c k L = T at *
        generalize L.map codeF = M at *
        clear hq HX HS HW hD hE hZ
        generalize hn : L.length = n at *
        clear hn
        generalize hy : w.heap.size = Y at *
        go_enter Try.func6, Try.ntmps6
        go_wp2_with fail
        rw [← W1.out]
        go_wp2_with fail
        refine CC.out.mono ?_
        rintro e w2 ⟨rfl, b2⟩
        have K2h := Lib.hid (K1h.out.below b2)
        have B2h : Hid (Below Y w w2) := Lib.hid (B1h.out.trans (b2.mono (by omega)))
        clear b2 e0 e1 e2 e3 e4
        go_wp2_with fail
        refine (DT.out _).mono ?_
        rintro e w3 ⟨p3, cp3, rfl, F3, b3⟩
        obtain ⟨w4, hw4, K4, G4, F4, B4⟩ : ∃ w4, w4 = w3.alloc (.cells #[.int .i64 a, .int .i64 b, .int .i64 c, .string k, .slice p3 n cp3] 24) ∧ Blk w4 Y 24 #[.int .i64 a, .int .i64 b, .int .i64 c, .string k, .slice p n cp] ∧ Blk w4 w3.heap.size 24 #[.int .i64 a, .int .i64 b, .int .i64 c, .string k, .slice p3 n cp3] ∧ Flds w4 p3 M ∧ Below Y w w4 :=
          have ba : Below w3.heap.size w3 (w3.alloc (.cells #[.int .i64 a, .int .i64 b, .int .i64 c, .string k, .slice p3 n cp3] 24)) := (Below.refl _ _).alloc (Nat.le_refl _) _
          ⟨_, rfl, (K2h.out.below b3).below ba, heap_alloc_new w3 _, F3.below ba, (B2h.out.trans (b3.mono (by have := B2h.out.size; omega))).alloc (by have := B2h.out.size; have := b3.size; omega) _⟩
        have W4 := Lib.hid hw4
        have c0 : w4.cell? ⟨w3.heap.size, 0, none⟩ = some (.int .i64 a) := G4.cell 0
        have c1 : w4.cell? ⟨w3.heap.size, 1, none⟩ = some (.int .i64 b) := G4.cell 1
        have c2 : w4.cell? ⟨w3.heap.size, 2, none⟩ = some (.int .i64 c) := G4.cell 2
        have c3 : w4.cell? ⟨w3.heap.size, 3, none⟩ = some (.string k) := G4.cell 3
        have c4 : w4.cell? ⟨w3.heap.size, 4, none⟩ = some (.slice p3 n cp3) := G4.cell 4
        have d0 : w4.cell? ⟨Y, 0, none⟩ = some (.int .i64 a) := K4.cell 0
        have d1 : w4.cell? ⟨Y, 1, none⟩ = some (.int .i64 b) := K4.cell 1
        have d2 : w4.cell? ⟨Y, 2, none⟩ = some (.int .i64 c) := K4.cell 2
        have d3 : w4.cell? ⟨Y, 3, none⟩ = some (.string k) := K4.cell 3
        have d4 : w4.cell? ⟨Y, 4, none⟩ = some (.slice p n cp) := K4.cell 4
        have F4h := Lib.hid F4
        have B4h := Lib.hid B4
        clear hw4 K4 G4 F4 B4 F3 b3
        go_wp2_with fail
        rw [← W4.out]
        generalize w3.heap.size = P at *
        have S1 : SD P Y (.int .i64 a) (.int .i64 b) (.int .i64 c) (.string k) (.slice p3 n cp3) (.slice p n cp) w4.drew := ⟨c0, c1, c2, c3, c4, d0, d1, d2, d3, d4⟩
        have F5h : Hid (Flds w4.drew p3 M) := Lib.hid (F4h.out.below (Below.refl _ _).drew)
        have B5h : Hid (Below Y w w4.drew) := Lib.hid B4h.out.drew
        clear c0 c1 c2 c3 c4 d0 d1 d2 d3 d4
        have tokA : True := trivial
        go_region_held3 (fun w' => w'.cell? ⟨P, 0, none⟩ = some (.int .i64 a) ∧ w'.cell? ⟨P, 1, none⟩ = some (.int .i64 b) ∧ w'.cell? ⟨P, 2, none⟩ = some (.int .i64 c) ∧ w'.cell? ⟨P, 3, none⟩ = some (.string k) ∧ w'.cell? ⟨P, 4, none⟩ = some (.slice p3 n cp3) ∧ w'.cell? ⟨Y, 0, none⟩ = some (.int .i64 a) ∧ w'.cell? ⟨Y, 1, none⟩ = some (.int .i64 b) ∧ w'.cell? ⟨Y, 2, none⟩ = some (.int .i64 c) ∧ w'.cell? ⟨Y, 3, none⟩ = some (.string k) ∧ w'.cell? ⟨Y, 4, none⟩ = some (.slice p n cp))
          (first | exact S1 | assumption | (refine SD.below ?_ b8; assumption) | (refine SD.below ?_ b7; assumption) | (refine SD.below ?_ b6; assumption))
          (first
            | (have tt := tokA; go_at_call 15; refine (RX.out _ _ _ F5h.out).mono ?_; rintro e w6 ⟨p6, cp6, rfl, F6, b6⟩; have F6h := Lib.hid F6; have B6h : Hid (Below Y w w6) := Lib.hid (B5h.out.trans (b6.mono (by have := B5h.out.size; omega))); clear F6 tt tokA)
            | (go_at_call 15; refine (RF.out _ B6h.out).mono ?_; rintro e w7 ⟨p7, cp7, rfl, F7, b7⟩; have F7h := Lib.hid F7; have G7h := Lib.hid (F6h.out.below b7); have B7h : Hid (Below Y w w7) := Lib.hid (B6h.out.trans (b7.mono (by have := B6h.out.size; omega))); clear F7)
            | (go_at_call 20; refine (SM.out _ _ _ _ _ G7h.out F7h.out).mono ?_; rintro e w8 ⟨rfl, b8⟩; have B8h : Hid (Below Y w w8) := Lib.hid (B7h.out.trans (b8.mono (by have := B7h.out.size; omega)))))
        have BB : Hid (Below Y w w8) := B8h
        clear RF RX SM DT CC b6 b7 b8 S1
        by_cases ho : okC s = true
        · obtain ⟨a', b', c', k', L', hD, hE, hC, hS', hl8, hk16, hWf, hSz⟩ := dec_yes ho (by omega)
          have DS := Lib.hid (fun W => dec_met hD hE (by omega) W)
          have EN := Lib.hid (fun p cp W (hx : Flds W p L') => encode_any a' b' c' k' p cp L' W (by omega) (by omega) hx hSz hWf)
          rw [hC, if_pos rfl, hS'] at EN
          unfold evV at EN
          have EN : Hid (∀ p cp W, Flds W p L' → Calls Try.prog 16 #[.agg #[.int .i64 a', .int .i64 b', .int .i64 c', .string k', .slice p L'.length cp]] W fun e w' => e = .returned (.tuple #[.string s, .int .i64 0]) ∧ Below W.heap.size W w') := EN
          clear hD hE hC hS' hWf hSz ho
          generalize L'.length = n' at *
          go_wp2_with fail
          refine (DS.out _).mono ?_
          rintro e v1 ⟨p', cp', rfl, G1, g1⟩
          obtain ⟨v2, hv2, J2, G2, C2⟩ : ∃ v2, v2 = v1.alloc (.cells #[.int .i64 a', .int .i64 b', .int .i64 c', .string k', .slice p' n' cp'] 24) ∧ Blk v2 v1.heap.size 24 #[.int .i64 a', .int .i64 b', .int .i64 c', .string k', .slice p' n' cp'] ∧ Flds v2 p' L' ∧ Below Y w v2 :=
            ⟨_, rfl, heap_alloc_new v1 _, G1.below ((Below.refl _ _).alloc (Nat.le_refl _) _), (BB.out.trans (g1.mono (by have := BB.out.size; omega))).alloc (by have := BB.out.size; have := g1.size; omega) _⟩
          have V2 := Lib.hid hv2
          have G2h := Lib.hid G2
          have C2h := Lib.hid C2
          have j0 : v2.cell? ⟨v1.heap.size, 0, none⟩ = some (.int .i64 a') := J2.cell 0
          have j1 : v2.cell? ⟨v1.heap.size, 1, none⟩ = some (.int .i64 b') := J2.cell 1
          have j2 : v2.cell? ⟨v1.heap.size, 2, none⟩ = some (.int .i64 c') := J2.cell 2
          have j3 : v2.cell? ⟨v1.heap.size, 3, none⟩ = some (.string k') := J2.cell 3
          have j4 : v2.cell? ⟨v1.heap.size, 4, none⟩ = some (.slice p' n' cp') := J2.cell 4
          clear hv2 J2 G2 C2 G1 g1
          go_wp2_with fail
          rw [← V2.out]
          refine (EN.out _ _ _ G2h.out).mono ?_
          rintro e v3 ⟨rfl, g3⟩
          have C3h : Hid (Below Y w v3) := Lib.hid (C2h.out.trans (g3.mono (by have := C2h.out.size; omega)))
          clear g3 j0 j1 j2 j3 j4
          go_wp2_with fail
          refine (awake_any _).mono ?_
          rintro e v4 ⟨rfl, g4⟩
          have C4h : Hid (Below Y w v4) := Lib.hid (C3h.out.trans (g4.mono (by have := C3h.out.size; omega)))
          clear g4
          go_wp2_with fail
          go_ret
          exact ⟨ret_bool (by simp), C4h.out⟩
        · obtain ⟨hD, hE⟩ := dec_no (s := s) (by simpa using ho)
          have DS := Lib.hid (fun W => dec_met hD hE (by omega) W)
          have DS : Hid (∀ W, Calls Try.prog 18 #[.string s] W (fun e w' => ∃ p cp, e = .returned (.tuple #[.agg #[.int .i64 0, .int .i64 0, .int .i64 0, .string ⟨#[]⟩, .slice p 0 cp], .int .i64 3]) ∧ Flds w' p [] ∧ Below W.heap.size W w')) := DS
          have RZ := Lib.hid (fun p cp W (hx : Flds W p []) => show Calls Try.prog 15 #[.agg #[.int .i64 0, .int .i64 0, .int .i64 0, .string ⟨#[]⟩, .slice p 0 cp]] W (fun e w' => ∃ p' cp', e = .returned (.agg #[.int .i64 0, .int .i64 0, .int .i64 0, .string ⟨#[]⟩, .slice p' 0 cp']) ∧ Flds w' p' [] ∧ Below W.heap.size W w') from ref_any 0 0 0 ⟨#[]⟩ p cp [] W (by decide) hx)
          have SZ := Lib.hid (fun p cp W (hx : Flds W p []) => show Calls Try.prog 20 #[.agg #[.int .i64 0, .int .i64 0, .int .i64 0, .string ⟨#[]⟩, .slice p 0 cp], .agg #[.int .i64 0, .int .i64 0, .int .i64 0, .string ⟨#[]⟩, .slice none 0 0]] W (fun e w' => e = .returned (.bool true) ∧ Below W.heap.size W w') from same_any 0 0 0 ⟨#[]⟩ p none cp 0 [] [] W (by decide) hx (fun i hi => (Nat.not_lt_zero i hi).elim) rfl)
          clear hD hE ho
          go_wp2_with fail
          refine (DS.out _).mono ?_
          rintro e v1 ⟨p', cp', rfl, G1, g1⟩
          obtain ⟨v2, hv2, J2, G2, C2⟩ : ∃ v2, v2 = v1.alloc (.cells #[.int .i64 0, .int .i64 0, .int .i64 0, .string ⟨#[]⟩, .slice p' 0 cp'] 24) ∧ Blk v2 v1.heap.size 24 #[.int .i64 0, .int .i64 0, .int .i64 0, .string ⟨#[]⟩, .slice p' 0 cp'] ∧ Flds v2 p' [] ∧ Below Y w v2 :=
            ⟨_, rfl, heap_alloc_new v1 _, G1.below ((Below.refl _ _).alloc (Nat.le_refl _) _), (BB.out.trans (g1.mono (by have := BB.out.size; omega))).alloc (by have := BB.out.size; have := g1.size; omega) _⟩
          have V2 := Lib.hid hv2
          have G2h := Lib.hid G2
          have C2h := Lib.hid C2
          have J2h := Lib.hid J2
          clear hv2 J2 G2 C2 G1 g1
          go_wp2_with fail
          rw [← V2.out]
          generalize v1.heap.size = Q at *
          refine (awake_any _).mono ?_
          rintro e v3 ⟨rfl, g3⟩
          have J3 := J2h.out.below g3
          have G3h := Lib.hid (G2h.out.below g3)
          have C3h : Hid (Below Y w v3) := Lib.hid (C2h.out.trans (g3.mono (by have := C2h.out.size; omega)))
          have j0 : v3.cell? ⟨Q, 0, none⟩ = some (.int .i64 0) := J3.cell 0
          have j1 : v3.cell? ⟨Q, 1, none⟩ = some (.int .i64 0) := J3.cell 1
          have j2 : v3.cell? ⟨Q, 2, none⟩ = some (.int .i64 0) := J3.cell 2
          have j3 : v3.cell? ⟨Q, 3, none⟩ = some (.string ⟨#[]⟩) := J3.cell 3
          have j4 : v3.cell? ⟨Q, 4, none⟩ = some (.slice p' 0 cp') := J3.cell 4
          clear g3 J3
          go_wp2_with fail
          refine (RZ.out _ _ _ G3h.out).mono ?_
          rintro e v4 ⟨p4, cp4, rfl, G4, g4⟩
          have G4h := Lib.hid G4
          have C4h : Hid (Below Y w v4) := Lib.hid (C3h.out.trans (g4.mono (by have := C3h.out.size; omega)))
          clear g4 G4 j0 j1 j2 j3 j4
          go_wp2_with fail
          refine (SZ.out _ _ _ G4h.out).mono ?_
          rintro e v5 ⟨rfl, g5⟩
          have C5h : Hid (Below Y w v5) := Lib.hid (C4h.out.trans (g5.mono (by have := C4h.out.size; omega)))
          clear g5
          go_wp2_with fail
          go_ret
          exact ⟨rfl, C5h.out⟩
    · have h5i : (5000 : Int) < (s.size : Int) := by omega
      generalize L.length = n at *
      generalize hy : w.heap.size = Y at *
      unfold evV
      go_enter Try.func6, Try.ntmps6
      go_wp2_with fail
      rw [← W1.out]
      go_wp2_with fail
      refine (awake_any _).mono ?_
      rintro e w2 ⟨rfl, b2⟩
      have B2h : Hid (Below Y w w2) := Lib.hid (B1h.out.trans (b2.mono (by omega)))
      clear b2
      go_wp2_with fail
      go_ret
      exact ⟨rfl, B2h.out⟩
  · have h100i : (100 : Int) < (L.length : Int) := by omega
    generalize L.length = n at *
    generalize hy : w.heap.size = Y at *
    unfold evV
    go_enter Try.func6, Try.ntmps6
    go_wp2_with fail
    rw [← W1.out]
    go_wp2_with fail
    refine (awake_any _).mono ?_
    rintro e w2 ⟨rfl, b2⟩
    have B2h : Hid (Below Y w w2) := Lib.hid (B1h.out.trans (b2.mono (by omega)))
    clear b2
    go_wp2_with fail
    go_ret
    exact ⟨rfl, B2h.out⟩
end Go.Proofs.Ytgenefamhhncbaa
namespace Go.Proofs.Ytgenefamhhncbaa.eventBack
open Go.ChangeShapes Go.WideShapes Go.ChangeAt Go.RowKit
open Go.ChangeMaps (open_string)
set_option maxRecDepth 100000 in
theorem lifted (os : Os) (started : os.Started) (H : Type) (enc : TypeId × Value → H) :
    ReturnsInHanded {} Try.checked os 6 .any (Rows.eventBackSpec.pre6 enc Try.prog Try.f6 Rows.eventBackRow.domain false) (Rows.eventBackSpec.post enc Try.prog Try.f6 false true false false) := by
  refine returnsInHanded_of_change_sized (C := Try.checked) own started (by kernel_rfl) Try.func6
    (ChangeSpec.witness6 (enc := enc) (C := Try.checked) false ⟨#[], #[.agg #[.int .i64 0, .int .i64 0, .int .i64 0, .string ByteArray.empty, .slice none 0 0], .string ByteArray.empty], []⟩ 8 (by kernel_rfl) (by kernel_rfl) (by kernel_rfl) (by kernel_rfl)) ?_
  intro W base args ds gs before hval0 hW _hcnd hsz _
  have hval : ∀ (j : Nat) t v, Try.f6.params[j]? = some t → args[j]? = some v → Value.okWide Try.prog W .any base t v := hval0
  have hW' := hW
  obtain ⟨p, q, hA0, hV, rfl, hfz, hnd⟩ := hW
  have hA : DataW.TrodAll enc Try.prog W 0 (fun _ => true) true Try.f6.params.toList args.toList ds p := hA0
  have hAll := hA
  rw [Try.params6] at hA hval
  obtain ⟨v0, vs0, d0, ds0, p0, q0, hargs, rfl, rfl, h0, r0⟩ := trodAll_cons hA
  obtain ⟨v1, vs1, d1, ds1, p1, q1, rfl, rfl, rfl, h1, r1⟩ := trodAll_cons r0
  obtain ⟨rfl, rfl, rfl⟩ := trodAll_nil r1
  obtain rfl : args = #[v0, v1] := by cases args; simp_all
  obtain ⟨rfl, rfl⟩ := trodVars_none hV
  obtain ⟨a0, b0, c0, k0, m0, cp0, L0, rfl, x0, l0, W0, kk0, wa0, wb0, wc0, z0⟩ := open_event (hval 0 24 v0 rfl rfl) h0
  have hsz0 : ∀ n ∈ d0.weights Try.prog 24, n ≤ reachBytes := fun n hn => by
    have := List.all_eq_true.1 hsz n (DataW.weights_mem_each (j := 0) rfl rfl n hn)
    simpa using this
  have S0 := z0 hsz0
  obtain ⟨a1, rfl, rfl, rfl, w1⟩ := open_string Try.underlying9 (hval 1 9 v1 rfl rfl) h1
  clear hA0 hval0 hA
  refine (back_law a0 b0 c0 k0 a1 m0 cp0 L0 W l0 (by unfold maxLen at kk0; omega) (by unfold maxLen at w1; omega) x0 (fun y hy => by have := W0 y hy; have := S0 y hy; have := reachBytes_lt; unfold maxLen at *; omega) (fun y hy => (W0 y hy).1)).mono fun e W' ⟨he, hg⟩ => ?_
  subst he
  exact ⟨_, rfl, law_post (tb := 4) laidOut (by rw [Try.params6]; decide +kernel) rfl rfl Try.underlying4 rfl hW' hAll hAll.lt hg⟩
theorem holds : Rows.EventBackSaid :=
  OpenClaim.holds_of_wide 6 Try.f6 rfl rfl rfl rfl rfl rfl rfl ⟨rfl, rfl, rfl, rfl, rfl⟩ rfl rfl rfl rfl rfl (by kernel_rfl) Try.func6 (by kernel_rfl)
    (of_decide_eq_true (by kernel_rfl)) (by unfold Func.isWrapper; rw [if_neg (by decide +kernel)]; exact ⟨rfl, rfl⟩)
    (fun os started H enc _ => lifted os started H enc)
end Go.Proofs.Ytgenefamhhncbaa.eventBack
