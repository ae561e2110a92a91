/-
  raft: AN ASK IS TAKEN off a tape: takeMsg; Read.
-/
import Derived.Test.YtkdaifcnlobhkaaNrd
namespace Go.Proofs.Ytkdaifcnlobhkaa
open Go.RowKit
set_option maxHeartbeats 8000000 in
set_option maxRecDepth 100000 in
theorem take_ask (f t m : Int) (hf : 0 ≤ f ∧ f < 7) (ht : 0 ≤ t ∧ t < 7) (hm : 0 ≤ m ∧ m ≤ 549755813888) (b : Nat) (w0 w : World) (h : TS w0 w b (askS f t m)) (hw : w0 = w) : Calls Try.prog 65 #[.pointer (some ⟨b, 0, none⟩)] w fun e w' => e = .returned (.agg (askA f t m)) ∧ TS w w' b ⟨#[]⟩ := by
  subst hw
  rw [askS_eq] at h
  have hbl := h.t.lt
  have wf : IntKind.i64.wrap f = f := IntWalk.i64_in _ (by omega)
  have wt : IntKind.i64.wrap t = t := IntWalk.i64_in _ (by omega)
  have wm : IntKind.i64.wrap m = m := IntWalk.i64_in _ (by omega)
  obtain ⟨W, hW⟩ : ∃ W, W = w0.alloc (.cells zerA 35) := ⟨_, rfl⟩
  have R0 : Hid (Blk W w0.heap.size 35 zerA) := Lib.hid (by rw [hW]; exact Blk.new _ _ _)
  have T0 := Lib.hid (h.next (BN1 w0 (.cells zerA 35)))
  rw [← hW] at T0
  have HW := Lib.hid hW
  have HT : Hid (b ≠ w0.heap.size) := Lib.hid (by omega)
  clear h hW hbl
  unfold zerA at HW
  obtain ⟨T, hT⟩ : ∃ T, T = w0.heap.size := ⟨_, rfl⟩
  have hTb : Hid (T = w0.heap.size) := Lib.hid hT
  rw [← hT] at R0 HT
  clear hT
  go_enter Try.func65, Try.ntmps65
  go_wp2_with (rw [← HW.out])
  rw [← hTb.out]
  refine (T0.out.numI (by omega) (by omega)).mono ?_
  rintro e v1 ⟨rfl, f1, t1⟩
  have R1 := Lib.hid (R0.out.fr f1 (fun e => HT.out e.symm))
  have T1 := Lib.hid t1
  clear f1 t1 R0 T0
  go_wp2_with fail
  refine (T1.out.numI (by omega) (by omega)).mono ?_
  rintro e v2 ⟨rfl, f2, t2⟩
  have R2 := Lib.hid (R1.out.fr f2 (fun e => HT.out e.symm))
  have T2 := Lib.hid t2
  clear f2 t2 R1 T1
  go_wp2_with fail
  refine (T2.out.numI (by omega) (by omega)).mono ?_
  rintro e v3 ⟨rfl, f3, t3⟩
  have R3 := Lib.hid (R2.out.fr f3 (fun e => HT.out e.symm))
  have T3 := Lib.hid t3
  clear f3 t3 R2 T2
  go_wp2_with fail
  refine (T3.out.numI (by omega) (by omega)).mono ?_
  rintro e v4 ⟨rfl, f4, t4⟩
  have R4 := Lib.hid (R3.out.fr f4 (fun e => HT.out e.symm))
  have T4 := Lib.hid t4
  clear f4 t4 R3 T3
  go_wp2_with fail
  refine (T4.out.numI (by omega) (by omega)).mono ?_
  rintro e v5 ⟨rfl, f5, t5⟩
  have R5 := Lib.hid (R4.out.fr f5 (fun e => HT.out e.symm))
  have T5 := Lib.hid t5
  clear f5 t5 R4 T4
  go_wp2_with fail
  refine (T5.out.numI (by omega) (by omega)).mono ?_
  rintro e v6 ⟨rfl, f6, t6⟩
  have R6 := Lib.hid (R5.out.fr f6 (fun e => HT.out e.symm))
  have T6 := Lib.hid t6
  clear f6 t6 R5 T5
  go_wp2_with fail
  refine (T6.out.numI (by omega) (by omega)).mono ?_
  rintro e v7 ⟨rfl, f7, t7⟩
  have R7 := Lib.hid (R6.out.fr f7 (fun e => HT.out e.symm))
  have T7 := Lib.hid t7
  clear f7 t7 R6 T6
  go_wp2_with fail
  refine (T7.out.flag).mono ?_
  rintro e v8 ⟨rfl, f8, t8⟩
  have R8 := Lib.hid (R7.out.fr f8 (fun e => HT.out e.symm))
  have T8 := Lib.hid t8
  clear f8 t8 R7 T7
  obtain ⟨W2, hW2⟩ : ∃ W2, W2 = v8.alloc (.cells #[.int .i64 1, .int .i64 f, .int .i64 t, .int .i64 m, .int .i64 0, .int .i64 0, .int .i64 0, .bool false, .slice none 0 0, .int .i64 0, .int .i64 0, .int .i64 0, .string ⟨#[]⟩] 35) := ⟨_, rfl⟩
  have hM : Hid (T < v8.heap.size ∧ b < v8.heap.size) := Lib.hid ⟨R8.out.lt, T8.out.t.lt⟩
  have bW2 : Below v8.heap.size v8 W2 := by rw [hW2]; exact BN1 _ _
  have M8 : Hid (Blk W2 v8.heap.size 35 (askA f t m)) := Lib.hid (by rw [hW2]; exact Blk.new _ _ _)
  have R9 := Lib.hid (R8.out.next bW2)
  have T9 := Lib.hid (T8.out.next bW2)
  have HW2 := Lib.hid hW2
  clear bW2 hW2 R8 T8
  go_wp2_with fail
  rw [← HW2.out]
  generalize v8.heap.size = M at *
  refine (T9.out.numI (by omega) (by omega)).mono ?_
  rintro e v9 ⟨rfl, f9, t9⟩
  have R10 := Lib.hid (R9.out.fr f9 (fun e => HT.out e.symm))
  have M10 := Lib.hid (M8.out.fr f9 (fun e => by have := hM.out; omega))
  have T10 := Lib.hid t9
  clear f9 t9 R9 T9 M8 HW2
  go_wp2_with fail
  go_loopw [31] (fun i wr => i = .int .u64 0 ∧ v9 = wr) (fun _ _ => 0)
  case atStart => exact ⟨rfl, rfl⟩
  case round =>
    obtain ⟨rfl, rfl⟩ := hrel
    go_wp2_with fail
    refine (T10.out.numI (by omega) (by omega)).mono ?_
    rintro e v10 ⟨rfl, f10, t10⟩
    have R11 := Lib.hid (R10.out.fr f10 (fun e => HT.out e.symm))
    have M11 := Lib.hid (M10.out.fr f10 (fun e => by have := hM.out; omega))
    have T11 := Lib.hid t10
    clear f10 t10 R10 T10 M10
    go_wp2_with fail
    refine (T11.out.numI (by omega) (by omega)).mono ?_
    rintro e v11 ⟨rfl, f11, t11⟩
    have R12 := Lib.hid (R11.out.fr f11 (fun e => HT.out e.symm))
    have M12 := Lib.hid (M11.out.fr f11 (fun e => by have := hM.out; omega))
    have T12 := Lib.hid t11
    clear f11 t11 R11 T11 M11
    go_wp2_with fail
    refine (T12.out.numI (by omega) (by omega)).mono ?_
    rintro e v12 ⟨rfl, f12, t12⟩
    have R13 := Lib.hid (R12.out.fr f12 (fun e => HT.out e.symm))
    have M13 := Lib.hid (M12.out.fr f12 (fun e => by have := hM.out; omega))
    have T13 := Lib.hid t12
    clear f12 t12 R12 T12 M12
    go_wp2_with fail
    refine (T13.out.text 262144 (by decide) (by decide)).mono ?_
    rintro e v13 ⟨rfl, f13, t13⟩
    have R14 := Lib.hid (R13.out.fr f13 (fun e => HT.out e.symm))
    have M14 := Lib.hid (M13.out.fr f13 (fun e => by have := hM.out; omega))
    have T14 := Lib.hid t13
    clear f13 t13 R13 T13 M13
    have z9 : v13.cell? ⟨M, 9, none⟩ = some (.int .i64 0) := M14.out.cell 9
    have z10 : v13.cell? ⟨M, 10, none⟩ = some (.int .i64 0) := M14.out.cell 10
    have z11 : v13.cell? ⟨M, 11, none⟩ = some (.int .i64 0) := M14.out.cell 11
    have z12 : v13.cell? ⟨M, 12, none⟩ = some (.string ⟨#[]⟩) := M14.out.cell 12
    have e9 := M14.out.free 9
    have e10 := M14.out.free 10
    have e11 := M14.out.free 11
    have e12 := M14.out.free 12
    obtain ⟨V, hV⟩ : ∃ V, V = (((v13.setCell ⟨M, 9, none⟩ (.int .i64 0)).setCell ⟨M, 10, none⟩ (.int .i64 0)).setCell ⟨M, 11, none⟩ (.int .i64 0)).setCell ⟨M, 12, none⟩ (.string ⟨#[]⟩) := ⟨_, rfl⟩
    have kV : Blk V M 35 (askA f t m) := by
      rw [hV]; exact (((M14.out.set 9 _).set 10 _).set 11 _).set 12 _
    have fV : Fr v13 V (fun q => q = M) := by
      rw [hV]; exact ((((Fr.refl v13 (fun q => q = M)).set M 9 _ (.inl rfl)).set M 10 _ (.inl rfl)).set M 11 _ (.inl rfl)).set M 12 _ (.inl rfl)
    have KV := Lib.hid kV
    have RV := Lib.hid (R14.out.fr fV (fun e => by have := hM.out; omega))
    have TV := Lib.hid (show TS w0 V b ⟨#[]⟩ from ⟨(fV.block b T14.out.t.lt (fun e => by have := hM.out; omega)).trans T14.out.t, T14.out.f.trans fV (fun _ _ h => h) (fun q hq e => by have := hM.out; have := hTb.out; omega), T14.out.z⟩)
    have HV := Lib.hid hV
    clear hV kV fV R14 T14 M14
    have ON := Lib.hid (ask_one f t m)
    go_wp2_with (first | rw [← HV.out] | (refine load_msg KV.out rfl rfl _ rfl rfl ?_) | (refine store_msg RV.out rfl rfl ON.out rfl _ _ rfl rfl rfl ?_; intro W9 kW fW; have KW := Lib.hid kW; have FW := Lib.hid fW; clear kW fW))
    refine bodyPost_ret (res_msg Try.results65 _ rfl KW.out rfl) rfl ?_
    refine ⟨rfl, (FW.out.block b TV.out.t.lt (fun e => HT.out e)).trans TV.out.t, TV.out.f.trans FW.out (fun _ _ h => h) (fun q hq e => by have := hTb.out; omega), by decide⟩
set_option maxHeartbeats 4000000 in
set_option maxRecDepth 100000 in
theorem read_ask (f t m : Int) (hf : 0 ≤ f ∧ f < 7) (ht : 0 ≤ t ∧ t < 7) (hm : 0 ≤ m ∧ m ≤ 549755813888) (hft : f ≠ t) (w : World) : Calls Try.prog 47 #[.string (askS f t m)] w fun e w' => e = .returned (.tuple #[.agg (askA f t m), .int .i64 0]) ∧ Below w.heap.size w w' := by
  have hsz := askS_size f t m
  have AT := Lib.hid (fun W => Bt.at_any (askS f t m) W (by omega))
  have TK := Lib.hid (fun b w0 (h : TS w0 w0 b (askS f t m)) => take_ask f t m hf ht hm b w0 w0 h rfl)
  have CK := Lib.hid (check_ask f t m hf ht hm hft)
  have ON := Lib.hid (ask_one f t m)
  obtain ⟨W, hW⟩ : ∃ W, W = w.alloc (.cells zerA 35) := ⟨_, rfl⟩
  have R0 : Hid (Blk W w.heap.size 35 zerA) := Lib.hid (by rw [hW]; exact Blk.new _ _ _)
  have B0 : Hid (Below w.heap.size w W) := Lib.hid (by rw [hW]; exact BN1 _ _)
  have HW := Lib.hid hW
  have HZ := Lib.hid hsz
  clear hW hsz hf ht hm hft
  unfold zerA at HW
  generalize askS f t m = S at *
  go_enter Try.func47, Try.ntmps47
  go_wp2_with (rw [← HW.out])
  refine (AT.out _).mono ?_
  rintro e w1 ⟨b, rfl, hb, tb, b1⟩
  have R1 := Lib.hid (R0.out.next b1)
  have B1 := Lib.hid (B0.out.trans (b1.mono B0.out.size))
  have HB := Lib.hid (Nat.le_trans R0.out.lt hb)
  have T1 := Lib.hid (show TS w1 w1 b S from ⟨tb, Fr.refl _ _, by have := HZ.out; omega⟩)
  clear hb tb b1 R0 B0 HW AT
  go_wp2_with fail
  refine (TK.out b _ T1.out).mono ?_
  rintro e w2 ⟨rfl, t2⟩
  have R2 := Lib.hid (R1.out.fr t2.f (fun e => by have := HB.out; omega))
  have B2 := Lib.hid (B1.out.trans (t2.f.below (B := w.heap.size) (fun q e => by have := HB.out; omega) B1.out.size))
  have T2 := Lib.hid t2.t
  obtain ⟨W2, hW2⟩ : ∃ W2, W2 = w2.alloc (.cells (askA f t m) 35) := ⟨_, rfl⟩
  have bW2 : Below w2.heap.size w2 W2 := by rw [hW2]; exact BN1 _ _
  have M2 : Hid (Blk W2 w2.heap.size 35 (askA f t m)) := Lib.hid (by rw [hW2]; exact Blk.new _ _ _)
  have R3 := Lib.hid (R2.out.next bW2)
  have B3 := Lib.hid (B2.out.trans (bW2.mono B2.out.size))
  have T3 := Lib.hid (T2.out.next bW2)
  have HW2 := Lib.hid hW2
  clear bW2 hW2 t2 R1 B1 T1 R2 B2 T2
  unfold askA at HW2
  unfold askA
  go_wp2_with fail
  rw [← HW2.out]
  generalize w2.heap.size = M at *
  refine (Bt.end_any T3.out).mono ?_
  rintro e w3 ⟨rfl, rfl⟩
  have hE : (Bt.endE ⟨#[]⟩ 0 != 0) = false := by decide
  have z0 : W2.cell? ⟨M, 0, none⟩ = some (.int .i64 1) := M2.out.cell 0
  have z1 : W2.cell? ⟨M, 1, none⟩ = some (.int .i64 f) := M2.out.cell 1
  have z2 : W2.cell? ⟨M, 2, none⟩ = some (.int .i64 t) := M2.out.cell 2
  have z3 : W2.cell? ⟨M, 3, none⟩ = some (.int .i64 m) := M2.out.cell 3
  have z4 : W2.cell? ⟨M, 4, none⟩ = some (.int .i64 0) := M2.out.cell 4
  have z5 : W2.cell? ⟨M, 5, none⟩ = some (.int .i64 0) := M2.out.cell 5
  have z6 : W2.cell? ⟨M, 6, none⟩ = some (.int .i64 0) := M2.out.cell 6
  have z7 : W2.cell? ⟨M, 7, none⟩ = some (.bool false) := M2.out.cell 7
  have z8 : W2.cell? ⟨M, 8, none⟩ = some (.slice none 0 0) := M2.out.cell 8
  have z9 : W2.cell? ⟨M, 9, none⟩ = some (.int .i64 0) := M2.out.cell 9
  have z10 : W2.cell? ⟨M, 10, none⟩ = some (.int .i64 0) := M2.out.cell 10
  have z11 : W2.cell? ⟨M, 11, none⟩ = some (.int .i64 0) := M2.out.cell 11
  have z12 : W2.cell? ⟨M, 12, none⟩ = some (.string ⟨#[]⟩) := M2.out.cell 12
  go_wp2_with fail
  refine (CK.out _).mono ?_
  rintro e w4 ⟨rfl, b4⟩
  have M4 := Lib.hid (M2.out.next b4)
  have R4 := Lib.hid (R3.out.next b4)
  have B4 := Lib.hid (B3.out.trans (b4.mono B3.out.size))
  clear b4 M2 R3 B3 T3 HW2 CK z0 z1 z2 z3 z4 z5 z6 z7 z8 z9 z10 z11 z12
  go_wp2_with (first | (refine load_msg M4.out rfl rfl _ rfl rfl ?_) | (refine store_msg R4.out rfl rfl ON.out rfl _ _ rfl rfl rfl ?_; intro W9 kW fW; have KW := Lib.hid kW; have FW := Lib.hid fW; clear kW fW))
  refine bodyPost_ret (res_msg2 Try.results47 _ rfl KW.out rfl) rfl ?_
  exact ⟨rfl, B4.out.trans (FW.out.below (fun q e => by omega) B4.out.size)⟩
/-- a letter is read -/
theorem letter_ask (f t m : Int) (hf : 0 ≤ f ∧ f < 7) (ht : 0 ≤ t ∧ t < 7) (hm : 0 ≤ m ∧ m ≤ 549755813888) (hft : f ≠ t) (w : World) : Calls Try.prog 32 #[.agg #[.string (askS f t m)]] w fun e w' => e = .returned (.agg (askA f t m)) ∧ Below w.heap.size w w' := by
  have RD := Lib.hid (read_ask f t m hf ht hm hft)
  have ON := Lib.hid (ask_one f t m)
  clear hf ht hm hft
  generalize askS f t m = S at *
  obtain ⟨W, hW⟩ : ∃ W, W = (w.alloc (.cells #[.string S] 83)).alloc (.cells zerA 35) := ⟨_, rfl⟩
  have bA := BN1 w (.cells #[.string S] 83)
  have bB := BN1 (w.alloc (.cells #[.string S] 83)) (.cells zerA 35)
  have R0 : Hid (Blk W (w.heap.size + 1) 35 zerA) := Lib.hid (by rw [hW]; have := Blk.new (w.alloc (.cells #[.string S] 83)) 35 zerA; simpa using this)
  have z0 : W.cell? ⟨w.heap.size, 0, none⟩ = some (.string S) := ((Blk.new w 83 #[.string S]).next bB |> fun h => by rw [hW]; exact h.cell 0)
  have B0 : Hid (Below w.heap.size w W) := Lib.hid (by rw [hW]; exact bA.trans (bB.mono bA.size))
  have HW := Lib.hid hW
  clear hW bA bB
  unfold zerA at HW
  go_enter Try.func32, Try.ntmps32
  go_wp2_with (rw [← HW.out])
  refine (RD.out _).mono ?_
  rintro e w1 ⟨rfl, b1⟩
  obtain ⟨W2, hW2⟩ : ∃ W2, W2 = w1.alloc (.cells (askA f t m) 35) := ⟨_, rfl⟩
  have bW2 : Below w1.heap.size w1 W2 := by rw [hW2]; exact BN1 _ _
  have M2 : Hid (Blk W2 w1.heap.size 35 (askA f t m)) := Lib.hid (by rw [hW2]; exact Blk.new _ _ _)
  have R1 := Lib.hid ((R0.out.next b1).next bW2)
  have B1 := Lib.hid ((B0.out.trans (b1.mono B0.out.size)).trans (bW2.mono (Nat.le_trans B0.out.size b1.size)))
  have HW2 := Lib.hid hW2
  clear bW2 hW2 b1 R0 B0 z0 HW
  unfold askA at HW2
  unfold askA
  go_wp2_with (first | rw [← HW2.out] | (refine load_msg M2.out rfl rfl _ rfl rfl ?_) | (refine store_msg R1.out rfl rfl ON.out rfl _ _ rfl rfl rfl ?_; intro W9 kW fW; have KW := Lib.hid kW; have FW := Lib.hid fW; clear kW fW))
  refine bodyPost_ret (res_msg Try.results32 _ rfl KW.out rfl) rfl ?_
  exact ⟨rfl, B1.out.trans (FW.out.below (fun q e => by omega) B1.out.size)⟩
theorem ask_fun (f t m : Int) (w : World) : Calls Try.prog 13 #[.int .i64 f, .int .i64 t, .int .i64 m] w fun e w' => e = .returned (.agg (askA f t m)) ∧ Below w.heap.size w w' := by
  unfold askA
  go_enter Try.func13, Try.ntmps13
  go_wp2_with fail
  refine bodyPost_ret (by simp [results, Try.results13, go_sem]; try rfl) rfl ?_
  exact ⟨rfl, BN1 _ _⟩
theorem time_any (n : Int) (w : World) : Calls Try.prog 29 #[.int .i64 n] w fun e w' => e = .returned (.bool (idxB n)) ∧ w = w' := by
  unfold idxB
  by_cases h1 : 0 ≤ n
  · by_cases h2 : n ≤ 549755813888
    all_goals
      go_enter Try.func29, Try.ntmps29
      go_wp2_with fail
      go_ret
      exact ⟨ret_bool (by simp [*]), rfl⟩
  · go_enter Try.func29, Try.ntmps29
    go_wp2_with fail
    go_ret
    exact ⟨ret_bool (by rw [decide_eq_false (Int.not_le.2 h1)]; rfl), rfl⟩
end Go.Proofs.Ytkdaifcnlobhkaa
