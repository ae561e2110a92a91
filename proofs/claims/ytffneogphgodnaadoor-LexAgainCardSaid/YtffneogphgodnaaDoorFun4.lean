/-
  THE FUNCTIONS OF TOKENS: lex.number; decimal numbers read.
-/
import Derived.Test.YtffneogphgodnaaDoorPu
namespace Go.Proofs.YtffneogphgodnaaDoor
open Go.RowKit
theorem pu10 : ∀ (l : List UInt8) (j acc : Nat), (∀ b ∈ l, digB (b.toNat : Int) = true) → acc < 10 ^ j → j + l.length ≤ 18 → Lib.parseUint10 acc l = .ok (l.foldl (fun a b => a * 10 + (b.toNat - 48)) acc)
  | [], _, _, _, _, _ => rfl
  | b :: l, j, acc, h, ha, hj => by
    have hb := h b (by simp)
    unfold digB at hb
    simp only [Bool.and_eq_true, decide_eq_true_eq] at hb
    rw [List.length_cons] at hj
    have h1 : (10 : Nat) ^ j ≤ 10 ^ 17 := Nat.pow_le_pow_right (by decide) (by omega)
    have h2 : (10 : Nat) ^ (j + 1) ≤ 10 ^ 18 := Nat.pow_le_pow_right (by decide) (by omega)
    have h3 : (10 : Nat) ^ (j + 1) = 10 ^ j * 10 := Nat.pow_succ ..
    simp only [Lib.parseUint10, List.foldl_cons]
    rw [if_pos (by omega), if_neg (by omega), if_neg (by omega)]
    exact pu10 l (j + 1) _ (fun c hc => h c (by simp [hc])) (by omega) (by omega)
theorem decN_lt (l : List UInt8) (h : ∀ b ∈ l, digB (b.toNat : Int) = true) : ∀ a j, a < 10 ^ j → l.foldl (fun a b => a * 10 + (b.toNat - 48)) a < 10 ^ (j + l.length) := by
  induction l with
  | nil => intro a j ha; exact ha
  | cons b l ih =>
    intro a j ha
    have hb := h b (by simp)
    unfold digB at hb
    simp only [Bool.and_eq_true, decide_eq_true_eq] at hb
    have h3 : (10 : Nat) ^ (j + 1) = 10 ^ j * 10 := Nat.pow_succ ..
    have := ih (fun c hc => h c (by simp [hc])) (a * 10 + (b.toNat - 48)) (j + 1) (by omega)
    rw [List.foldl_cons, List.length_cons, show j + (l.length + 1) = j + 1 + l.length by omega]
    exact this
/-- what Atoi reads of a sign and of 1 to 18 digits -/
theorem atoi_of {T : List UInt8} {D : List UInt8} {neg : Bool} (hT : T = if neg then 45 :: D else D) (hD : ∀ b ∈ D, digB (b.toNat : Int) = true) (h1 : 1 ≤ D.length) : Lib.atoi T = some (sgn neg (decN D)) := by
  have hd := dig_of hD 0
  have hdn : Lib.decNat D = some (decN D) := by
    unfold Lib.decNat
    have : D.isEmpty = false := by cases D with
      | nil => simp at h1
      | cons _ _ => rfl
    rw [this]
    exact hd
  cases neg
  · have hT : T = D := hT
    rw [hT]
    cases hDD : D with
    | nil => rw [hDD] at h1; simp at h1
    | cons b l =>
      have hb := hD b (by rw [hDD]; simp)
      unfold digB at hb
      simp only [Bool.and_eq_true, decide_eq_true_eq] at hb
      have e1 : (b == 45) = false := by
        rw [beq_eq_false_iff_ne]; rintro rfl; exact absurd hb.1 (by decide)
      have e2 : (b == 43) = false := by
        rw [beq_eq_false_iff_ne]; rintro rfl; exact absurd hb.1 (by decide)
      simp only [Lib.atoi, e1, e2]
      rw [hDD] at hdn
      rw [hdn]
      rfl
  · have hT : T = 45 :: D := hT
    rw [hT]
    simp only [Lib.atoi]
    rw [hdn]
    rfl
theorem atoiAll_of {T : List UInt8} {D : List UInt8} (hT : T = 45 :: D) (hD : ∀ b ∈ D, digB (b.toNat : Int) = true) (h1 : 1 ≤ D.length) (h18 : D.length ≤ 18) : Lib.atoiAll T = .ok (sgn true (decN D)) := by
  have hp := pu10 D 0 0 hD (by decide) (by omega)
  have hl := decN_lt D hD 0 0 (by decide)
  have h2 : (10 : Nat) ^ (0 + D.length) ≤ 10 ^ 18 := Nat.pow_le_pow_right (by decide) (by omega)
  have hm : Lib.parseMag D = .ok (decN D) := by
    unfold Lib.parseMag
    rw [if_neg (by rintro rfl; simp at h1)]
    exact hp
  have hd : decN D < 1000000000000000000 := by unfold decN; omega
  rw [hT]
  unfold Lib.atoiAll
  simp only
  rw [if_pos (Or.inr (by decide)), hm]
  simp only
  rw [if_neg (by rintro ⟨h, _⟩; exact h (by decide)), if_neg (by omega), if_pos (by decide)]
  rfl
theorem atoi_any (T : ByteArray) (n : Int) (h : (T.size ≤ 18 ∧ Lib.atoi (bl T) = some n) ∨ (T.size = 19 ∧ Lib.atoiAll (bl T) = .ok n)) (w : World) : Calls Tryd.prog 26 #[.string T] w fun e w' => e = .returned (.tuple #[.int .i64 n, .nilIface]) ∧ Below w.heap.size w w' := by
  rcases h with ⟨h1, h2⟩ | ⟨h1, h2⟩
  · exact (Tryd.strconv_Atoi T n h1 h2 w).mono (fun e w' h => ⟨h.1, by obtain ⟨t, rfl⟩ := h.2; exact Lib.bytesWorld_below w 5 t⟩)
  · have A : Hid (∀ W, Calls Tryd.prog 39 #[.string T] W fun e w' => e = .returned (.tuple #[.int .i64 n, .nilIface]) ∧ Below W.heap.size W w') := Lib.hid (fun W => by
      refine (Tryd.internal_strconv_Atoi_long T (by omega) (by omega) W).mono (fun e w' h => ⟨?_, ?_⟩)
      · have e1 := h.1
        rw [show T.data.toList = bl T from rfl, h2] at e1
        exact e1
      · rcases h.2 with rfl | ⟨t, rfl⟩
        · exact Below.refl _ _
        · exact Lib.bytesWorld_below W 5 t)
    clear h1 h2
    go_enter Tryd.func26, Tryd.ntmps26
    go_wp2_with fail
    refine (A.out _).mono ?_
    rintro e w2 ⟨rfl, b2⟩
    go_wp2_with fail
    go_ret2
    exact ⟨rfl, b2⟩
theorem unsg_size (r : ByteArray) : (unsg r).size ≤ r.size ∧ r.size ≤ (unsg r).size + 1 ∧ (negB r = true → r.size = (unsg r).size + 1) ∧ (negB r = false → unsg r = r) := by
  unfold unsg negB
  cases h : (bl r).head? == some 45
  · exact ⟨Nat.le_refl _, Nat.le_succ _, (fun h => by cases h), (fun _ => rfl)⟩
  · have hp : 0 < r.size := by
      rw [← bl_len]
      cases hb : bl r with
      | nil => rw [hb] at h; exact absurd h (by decide)
      | cons _ _ => simp
    simp only [if_true, ByteArray.size_extract]
    exact ⟨by omega, by omega, (fun _ => by omega), (fun h => by cases h)⟩
theorem bl_unsg (r : ByteArray) : bl (unsg r) = if negB r = true then (bl r).drop 1 else bl r := by
  unfold unsg
  split
  · exact bl_inner r
  · rfl
theorem trim_list (l : List UInt8) : Lib.trimPrefix l [45] = if (l.head? == some 45) = true then l.drop 1 else l := by
  unfold Lib.trimPrefix Lib.hasPrefix
  cases l with
  | nil => rfl
  | cons c l =>
    by_cases hc : c = 45
    · subst hc; rfl
    · have e : (45 == c) = false := by rw [beq_eq_false_iff_ne]; exact fun h => hc h.symm
      have e2 : (c == 45) = false := by rw [beq_eq_false_iff_ne]; exact hc
      simp [List.isPrefixOf, e, e2]
theorem trim_unsg (r : ByteArray) : (⟨(Lib.trimPrefix r.data.toList [45]).toArray⟩ : ByteArray) = unsg r := by
  apply ba_ext
  show (Lib.trimPrefix (bl r) [45]).toArray.toList = bl (unsg r)
  rw [List.toList_toArray, trim_list, bl_unsg]
  rfl
theorem unsg_bl (r : ByteArray) : bl r = if negB r then 45 :: bl (unsg r) else bl (unsg r) := by
  rw [bl_unsg]
  unfold negB
  cases hb : bl r with
  | nil => rfl
  | cons c l =>
    by_cases hc : c = 45
    · subst hc; rfl
    · have e2 : (c == 45) = false := by rw [beq_eq_false_iff_ne]; exact hc
      simp [e2]
theorem num_text (r : ByteArray) (m : Nat) : bl (r.extract 0 ((r.size - (unsg r).size) + m)) = if negB r then 45 :: (bl (unsg r)).take m else (bl (unsg r)).take m := by
  rw [bl_extract, List.drop_zero, Nat.sub_zero]
  obtain ⟨h1, h2, h3, h4⟩ := unsg_size r
  have hb := unsg_bl r
  cases hn : negB r
  · rw [hn] at hb
    have := h4 hn
    rw [this, Nat.sub_self, Nat.zero_add]
    rfl
  · rw [hn] at hb
    have := h3 hn
    rw [show r.size - (unsg r).size + m = m + 1 by omega]
    rw [if_pos rfl] at hb ⊢
    generalize bl (unsg r) = L at *
    rw [hb, List.take_succ_cons]
set_option maxHeartbeats 2000000 in
theorem number_any (r : ByteArray) (hr : r.size ≤ 4096) (w : World) : Calls Tryd.prog 16 #[.string r] w fun e w' => e = .returned ((numT r).val r) ∧ Below w.heap.size w w' := by
  obtain ⟨w1, hw1, K1, B1⟩ : ∃ w1, w1 = w.alloc (.cells #[.int .i64 0, .int .i64 0, .string ⟨#[]⟩, .int .i64 0, .string ⟨#[]⟩] 34) ∧ Blk w1 w.heap.size 34 #[.int .i64 0, .int .i64 0, .string ⟨#[]⟩, .int .i64 0, .string ⟨#[]⟩] ∧ Below w.heap.size w w1 := ⟨_, rfl, Blk.new w 34 _, (Below.refl _ w).alloc (Nat.le_refl _) _⟩
  have W1 := Lib.hid hw1
  have K1h := Lib.hid K1
  have B1h := Lib.hid B1
  clear hw1 K1 B1
  generalize hy : w.heap.size = Y at *
  obtain ⟨z1, z2, z3, z4⟩ := unsg_size r
  have TP : Hid (∀ W, Calls Tryd.prog 25 #[.string r, .string ⟨#[45]⟩] W fun e w' => e = .returned (.string (unsg r)) ∧ W = w') := Lib.hid (fun W => (Tryd.strings_TrimPrefix r ⟨#[45]⟩ W).mono (fun e w' h => ⟨by rw [h.1, show (⟨#[45]⟩ : ByteArray).data.toList = [45] from rfl, trim_unsg], h.2.symm⟩))
  have S := Lib.hid (span_dig (unsg r) (by omega))
  have hm := spanN_le digB (bl (unsg r))
  rw [bl_len] at hm
  have hD := span_all_of digB (bl (unsg r))
  have HT := num_text r (spanN digB (bl (unsg r)))
  have hR : Hid ((numT r).val r = if numOk r then tokV 2 0 (r.extract 0 ((r.size - (unsg r).size) + spanN digB (bl (unsg r)))) (sgn (negB r) (decN ((bl (unsg r)).take (spanN digB (bl (unsg r)))))) ⟨#[]⟩ else tokV 0 0 ⟨#[]⟩ 0 ⟨#[]⟩) := Lib.hid (by
    unfold numT T1.val
    split
    · rfl
    · show tokV 0 0 (r.extract 0 0) 0 ⟨#[]⟩ = _
      rw [extract_zero])
  have hO : Hid (numOk r = (decide (1 ≤ spanN digB (bl (unsg r))) && (decide (spanN digB (bl (unsg r)) ≤ 18) && !(decide (1 < spanN digB (bl (unsg r))) && decide ((bl (unsg r)).headD 0 = 48))))) := Lib.hid rfl
  have hH : Hid (∀ h : 0 < (unsg r).size, decide ((bl (unsg r)).headD 0 = 48) = decide (((unsg r)[0].toNat : Int) = 48)) := Lib.hid (fun h => by
    rw [head_at _ h]
    apply Bool.eq_iff_iff.2
    simp only [decide_eq_true_eq]
    constructor
    · intro h; rw [h]; rfl
    · intro h; apply UInt8.toNat_inj.1; show (unsg r)[0].toNat = 48; omega)
  generalize hV : (numT r).val r = V at *
  clear hV
  have HA : Hid (1 ≤ spanN digB (bl (unsg r)) → spanN digB (bl (unsg r)) ≤ 18 → ∀ w, Calls Tryd.prog 26 #[.string (r.extract 0 ((r.size - (unsg r).size) + spanN digB (bl (unsg r))))] w fun e w' => e = .returned (.tuple #[.int .i64 (sgn (negB r) (decN ((bl (unsg r)).take (spanN digB (bl (unsg r)))))), .nilIface]) ∧ Below w.heap.size w w') := Lib.hid (fun h1 h18 w => by
    have hl : ((bl (unsg r)).take (spanN digB (bl (unsg r)))).length = spanN digB (bl (unsg r)) := by rw [List.length_take, bl_len]; omega
    have hz : (r.extract 0 ((r.size - (unsg r).size) + spanN digB (bl (unsg r)))).size = (r.size - (unsg r).size) + spanN digB (bl (unsg r)) := by rw [ByteArray.size_extract]; omega
    refine atoi_any _ _ ?_ w
    by_cases h19 : (r.size - (unsg r).size) + spanN digB (bl (unsg r)) ≤ 18
    · exact Or.inl ⟨by rw [hz]; exact h19, atoi_of HT hD (by rw [hl]; exact h1)⟩
    · right
      have hn : negB r = true := by
        cases hn : negB r
        · have := congrArg ByteArray.size (z4 hn); omega
        · rfl
      refine ⟨by rw [hz]; omega, ?_⟩
      rw [hn] at HT ⊢
      exact atoiAll_of HT hD (by rw [hl]; exact h1) (by rw [hl]; exact h18))
  clear HT hD z3 z4
  generalize sgn (negB r) (decN ((bl (unsg r)).take (spanN digB (bl (unsg r))))) = q at *
  generalize numOk r = OK at *
  obtain ⟨c, hc⟩ : ∃ c, r.size - (unsg r).size = c := ⟨_, rfl⟩
  rw [hc] at HA hR
  have e1 : (r.size : Int) - ((unsg r).size : Int) = (c : Int) := by omega
  have C1 := Lib.hid (token_any 2 (r.extract 0 (c + spanN digB (bl (unsg r)))) (by rw [ByteArray.size_extract]; omega))
  unfold tokV at C1
  generalize bl (unsg r) = BU at *
  generalize unsg r = U at *
  generalize spanN digB BU = m at *
  have hcl : c + m ≤ r.size := by omega
  clear hc
  by_cases h1 : 1 ≤ m
  · have hU : 0 < U.size := by omega
    have hh := hH.out hU
    by_cases h18 : m ≤ 18
    · have A1 := Lib.hid (HA.out h1 h18)
      have e2 : ((c : Int) + (m : Int)).toNat = c + m := by omega
      have e3 : (c : Int) + (m : Int) ≤ (r.size : Int) := by omega
      have e4 : 0 ≤ (c : Int) + (m : Int) := by omega
      by_cases hz : 1 < m ∧ (U[0].toNat : Int) = 48
      · obtain ⟨g1, g2⟩ := hz
        have RES : Hid (V = tokV 0 0 ⟨#[]⟩ 0 ⟨#[]⟩) := Lib.hid (by rw [hR.out, hO.out, hh, decide_eq_true g1, decide_eq_true g2]; simp)
        have d0 : ((U[0].toNat : Int) == 48) = true := by simpa using g2
        have g1' : (1 : Int) < (m : Int) := by omega
        clear hR hO hh hH HA g2 e2 e1
        go_enter Tryd.func16, Tryd.ntmps16
        go_wp2_with fail
        rw [← W1.out]
        refine (TP.out _).mono ?_
        rintro e w2 ⟨rfl, rfl⟩
        go_wp2_with fail
        refine (S.out _).mono ?_
        rintro e w2 ⟨rfl, rfl⟩
        have y0 : w1.cell? ⟨Y, 0, none⟩ = some (.int .i64 0) := K1h.out.cell 0
        have y1 : w1.cell? ⟨Y, 1, none⟩ = some (.int .i64 0) := K1h.out.cell 1
        have y2 : w1.cell? ⟨Y, 2, none⟩ = some (.string ⟨#[]⟩) := K1h.out.cell 2
        have y3 : w1.cell? ⟨Y, 3, none⟩ = some (.int .i64 0) := K1h.out.cell 3
        have y4 : w1.cell? ⟨Y, 4, none⟩ = some (.string ⟨#[]⟩) := K1h.out.cell 4
        have f0 := K1h.out.free 0
        have f1 := K1h.out.free 1
        have f2 := K1h.out.free 2
        have f3 := K1h.out.free 3
        have f4 := K1h.out.free 4
        obtain ⟨W5, hW5, R5, B5, _, _⟩ := tok_put (u := w) (0) (0) (⟨#[]⟩) (0) (⟨#[]⟩) K1h.out rfl (by rw [hy]; exact Nat.le_refl _) (by rw [hy]; exact B1h.out)
        have W5h := Lib.hid hW5
        have R5h := Lib.hid R5
        have B5h := Lib.hid B5
        clear hW5 R5 B5
        go_wp2_with fail
        rw [← W5h.out]
        have q0 : W5.cell? ⟨Y, 0, none⟩ = some (.int .i64 (0)) := R5h.out.cell 0
        have q1 : W5.cell? ⟨Y, 1, none⟩ = some (.int .i64 (0)) := R5h.out.cell 1
        have q2 : W5.cell? ⟨Y, 2, none⟩ = some (.string (⟨#[]⟩)) := R5h.out.cell 2
        have q3 : W5.cell? ⟨Y, 3, none⟩ = some (.int .i64 (0)) := R5h.out.cell 3
        have q4 : W5.cell? ⟨Y, 4, none⟩ = some (.string (⟨#[]⟩)) := R5h.out.cell 4
        refine bodyPost_ret (v := tokV (0) (0) (⟨#[]⟩) (0) (⟨#[]⟩)) (by simp [results, Tryd.results16, go_sem, q0, q1, q2, q3, q4, tokV]; try rfl) rfl ?_
        exact ⟨by rw [RES.out], hy ▸ B5h.out⟩
      · have RES : Hid (V = tokV 2 0 (r.extract 0 (c + m)) q ⟨#[]⟩) := Lib.hid (by
          rw [hR.out, hO.out, hh, decide_eq_true h1, decide_eq_true h18]
          have : (decide (1 < m) && decide ((U[0].toNat : Int) = 48)) = false := by
            simp only [Bool.and_eq_false_iff, decide_eq_false_iff_not]
            by_cases g : 1 < m
            · exact Or.inr (fun h => hz ⟨g, h⟩)
            · exact Or.inl g
          rw [this]; rfl)
        have hzz : ¬ (1 : Int) < (m : Int) ∨ ((U[0].toNat : Int) == 48) = false := by
          by_cases g : 1 < m
          · right; rw [beq_eq_false_iff_ne]; exact fun h => hz ⟨g, h⟩
          · left; omega
        clear hR hO hh hH HA hz
        have hzz2 : ¬ (1 : Int) < (m : Int) ∨ ((1 : Int) < (m : Int) ∧ ((U[0].toNat : Int) == 48) = false) := by
          by_cases g : (1 : Int) < (m : Int)
          · exact Or.inr ⟨g, hzz.resolve_left (fun h => h g)⟩
          · exact Or.inl g
        clear hzz
        rcases hzz2 with g1' | ⟨g1', d0⟩
        all_goals
          go_enter Tryd.func16, Tryd.ntmps16
          go_wp2_with fail
          rw [← W1.out]
          refine (TP.out _).mono ?_
          rintro e w2 ⟨rfl, rfl⟩
          go_wp2_with fail
          refine (S.out _).mono ?_
          rintro e w2 ⟨rfl, rfl⟩
          go_wp2_with fail
          refine (C1.out _).mono ?_
          rintro e w3 ⟨rfl, b3⟩
          have K3h := Lib.hid (K1h.out.below b3)
          have B3h := Lib.hid (B1h.out.trans (b3.mono (by have := K1h.out.lt; omega)))
          clear b3
          obtain ⟨w4, hw4, K4, X4, B4⟩ : ∃ w4, w4 = w3.alloc (.cells #[.int .i64 2, .int .i64 0, .string (r.extract 0 (c + m)), .int .i64 0, .string ⟨#[]⟩] 34) ∧ Blk w4 Y 34 #[.int .i64 0, .int .i64 0, .string ⟨#[]⟩, .int .i64 0, .string ⟨#[]⟩] ∧ Blk w4 w3.heap.size 34 #[.int .i64 2, .int .i64 0, .string (r.extract 0 (c + m)), .int .i64 0, .string ⟨#[]⟩] ∧ Below Y w w4 :=
            ⟨_, rfl, K3h.out.below ((Below.refl _ _).alloc (Nat.le_refl _) _), Blk.new w3 34 _, B3h.out.alloc (by have := B3h.out.size; omega) _⟩
          have W4 := Lib.hid hw4
          have K4h := Lib.hid K4
          have X4h := Lib.hid X4
          have B4h := Lib.hid B4
          have hXY : Y < w3.heap.size := K3h.out.lt
          clear hw4 K4 X4 B4
          go_wp2_with fail
          rw [← W4.out]
          generalize w3.heap.size = X at *
          refine (A1.out _).mono ?_
          rintro e w5 ⟨rfl, b5⟩
          have K6h := Lib.hid (K4h.out.below b5)
          have X6h := Lib.hid (X4h.out.below b5)
          have B6h := Lib.hid (B4h.out.trans (b5.mono (by have := K4h.out.lt; omega)))
          clear b5
          obtain ⟨w6, hw6, K7, X7, B7⟩ : ∃ w6, w6 = w5.setCell ⟨X, 3, none⟩ (.int .i64 q) ∧ Blk w6 Y 34 #[.int .i64 0, .int .i64 0, .string ⟨#[]⟩, .int .i64 0, .string ⟨#[]⟩] ∧ Blk w6 X 34 #[.int .i64 2, .int .i64 0, .string (r.extract 0 (c + m)), .int .i64 q, .string ⟨#[]⟩] ∧ Below Y w w6 :=
            ⟨_, rfl, K6h.out.set_other (by omega) _ _, X6h.out.set 3 _, B6h.out.setCell (p := ⟨X, 3, none⟩) (by show Y ≤ X; omega) _⟩
          have W6 := Lib.hid hw6
          have K7h := Lib.hid K7
          have B7h := Lib.hid B7
          have x0 : w5.cell? ⟨X, 0, none⟩ = some (.int .i64 2) := X6h.out.cell 0
          have x1 : w5.cell? ⟨X, 1, none⟩ = some (.int .i64 0) := X6h.out.cell 1
          have x2 : w5.cell? ⟨X, 2, none⟩ = some (.string (r.extract 0 (c + m))) := X6h.out.cell 2
          have x3 : w5.cell? ⟨X, 3, none⟩ = some (.int .i64 0) := X6h.out.cell 3
          have x4 : w5.cell? ⟨X, 4, none⟩ = some (.string ⟨#[]⟩) := X6h.out.cell 4
          have xf := X6h.out.free 3
          have hne : ¬ (X = Y) := by omega
          have hne2 : ¬ (Y = X) := by omega
          clear hw6 K7 X7 B7
          have y0 : w5.cell? ⟨Y, 0, none⟩ = some (.int .i64 0) := K6h.out.cell 0
          have y1 : w5.cell? ⟨Y, 1, none⟩ = some (.int .i64 0) := K6h.out.cell 1
          have y2 : w5.cell? ⟨Y, 2, none⟩ = some (.string ⟨#[]⟩) := K6h.out.cell 2
          have y3 : w5.cell? ⟨Y, 3, none⟩ = some (.int .i64 0) := K6h.out.cell 3
          have y4 : w5.cell? ⟨Y, 4, none⟩ = some (.string ⟨#[]⟩) := K6h.out.cell 4
          have f0 := K6h.out.free 0
          have f1 := K6h.out.free 1
          have f2 := K6h.out.free 2
          have f3 := K6h.out.free 3
          have f4 := K6h.out.free 4
          obtain ⟨W5, hW5, R5, B5, _, _⟩ := tok_put (u := w) (2) (0) (r.extract 0 (c + m)) (q) (⟨#[]⟩) K7h.out rfl (by rw [hy]; exact Nat.le_refl _) (by rw [hy]; exact B7h.out)
          have W5h := Lib.hid hW5
          have R5h := Lib.hid R5
          have B5h := Lib.hid B5
          clear hW5 R5 B5
          go_wp2_with fail
          rw [← W6.out, ← W5h.out]
          have q0 : W5.cell? ⟨Y, 0, none⟩ = some (.int .i64 (2)) := R5h.out.cell 0
          have q1 : W5.cell? ⟨Y, 1, none⟩ = some (.int .i64 (0)) := R5h.out.cell 1
          have q2 : W5.cell? ⟨Y, 2, none⟩ = some (.string (r.extract 0 (c + m))) := R5h.out.cell 2
          have q3 : W5.cell? ⟨Y, 3, none⟩ = some (.int .i64 (q)) := R5h.out.cell 3
          have q4 : W5.cell? ⟨Y, 4, none⟩ = some (.string (⟨#[]⟩)) := R5h.out.cell 4
          refine bodyPost_ret (v := tokV (2) (0) (r.extract 0 (c + m)) (q) (⟨#[]⟩)) (by simp [results, Tryd.results16, go_sem, q0, q1, q2, q3, q4, tokV]; try rfl) rfl ?_
          exact ⟨by rw [RES.out], hy ▸ B5h.out⟩
    · have RES : Hid (V = tokV 0 0 ⟨#[]⟩ 0 ⟨#[]⟩) := Lib.hid (by rw [hR.out, hO.out, decide_eq_false h18]; simp)
      have g18 : (18 : Int) < (m : Int) := by omega
      clear hR hO hh hH HA e1
      go_enter Tryd.func16, Tryd.ntmps16
      go_wp2_with fail
      rw [← W1.out]
      refine (TP.out _).mono ?_
      rintro e w2 ⟨rfl, rfl⟩
      go_wp2_with fail
      refine (S.out _).mono ?_
      rintro e w2 ⟨rfl, rfl⟩
      have y0 : w1.cell? ⟨Y, 0, none⟩ = some (.int .i64 0) := K1h.out.cell 0
      have y1 : w1.cell? ⟨Y, 1, none⟩ = some (.int .i64 0) := K1h.out.cell 1
      have y2 : w1.cell? ⟨Y, 2, none⟩ = some (.string ⟨#[]⟩) := K1h.out.cell 2
      have y3 : w1.cell? ⟨Y, 3, none⟩ = some (.int .i64 0) := K1h.out.cell 3
      have y4 : w1.cell? ⟨Y, 4, none⟩ = some (.string ⟨#[]⟩) := K1h.out.cell 4
      have f0 := K1h.out.free 0
      have f1 := K1h.out.free 1
      have f2 := K1h.out.free 2
      have f3 := K1h.out.free 3
      have f4 := K1h.out.free 4
      obtain ⟨W5, hW5, R5, B5, _, _⟩ := tok_put (u := w) (0) (0) (⟨#[]⟩) (0) (⟨#[]⟩) K1h.out rfl (by rw [hy]; exact Nat.le_refl _) (by rw [hy]; exact B1h.out)
      have W5h := Lib.hid hW5
      have R5h := Lib.hid R5
      have B5h := Lib.hid B5
      clear hW5 R5 B5
      go_wp2_with fail
      rw [← W5h.out]
      have q0 : W5.cell? ⟨Y, 0, none⟩ = some (.int .i64 (0)) := R5h.out.cell 0
      have q1 : W5.cell? ⟨Y, 1, none⟩ = some (.int .i64 (0)) := R5h.out.cell 1
      have q2 : W5.cell? ⟨Y, 2, none⟩ = some (.string (⟨#[]⟩)) := R5h.out.cell 2
      have q3 : W5.cell? ⟨Y, 3, none⟩ = some (.int .i64 (0)) := R5h.out.cell 3
      have q4 : W5.cell? ⟨Y, 4, none⟩ = some (.string (⟨#[]⟩)) := R5h.out.cell 4
      refine bodyPost_ret (v := tokV (0) (0) (⟨#[]⟩) (0) (⟨#[]⟩)) (by simp [results, Tryd.results16, go_sem, q0, q1, q2, q3, q4, tokV]; try rfl) rfl ?_
      exact ⟨by rw [RES.out], hy ▸ B5h.out⟩
  · have RES : Hid (V = tokV 0 0 ⟨#[]⟩ 0 ⟨#[]⟩) := Lib.hid (by rw [hR.out, hO.out, decide_eq_false h1]; simp)
    have g1' : (m : Int) < 1 := by omega
    clear hR hO hH HA e1
    go_enter Tryd.func16, Tryd.ntmps16
    go_wp2_with fail
    rw [← W1.out]
    refine (TP.out _).mono ?_
    rintro e w2 ⟨rfl, rfl⟩
    go_wp2_with fail
    refine (S.out _).mono ?_
    rintro e w2 ⟨rfl, rfl⟩
    have y0 : w1.cell? ⟨Y, 0, none⟩ = some (.int .i64 0) := K1h.out.cell 0
    have y1 : w1.cell? ⟨Y, 1, none⟩ = some (.int .i64 0) := K1h.out.cell 1
    have y2 : w1.cell? ⟨Y, 2, none⟩ = some (.string ⟨#[]⟩) := K1h.out.cell 2
    have y3 : w1.cell? ⟨Y, 3, none⟩ = some (.int .i64 0) := K1h.out.cell 3
    have y4 : w1.cell? ⟨Y, 4, none⟩ = some (.string ⟨#[]⟩) := K1h.out.cell 4
    have f0 := K1h.out.free 0
    have f1 := K1h.out.free 1
    have f2 := K1h.out.free 2
    have f3 := K1h.out.free 3
    have f4 := K1h.out.free 4
    obtain ⟨W5, hW5, R5, B5, _, _⟩ := tok_put (u := w) (0) (0) (⟨#[]⟩) (0) (⟨#[]⟩) K1h.out rfl (by rw [hy]; exact Nat.le_refl _) (by rw [hy]; exact B1h.out)
    have W5h := Lib.hid hW5
    have R5h := Lib.hid R5
    have B5h := Lib.hid B5
    clear hW5 R5 B5
    go_wp2_with fail
    rw [← W5h.out]
    have q0 : W5.cell? ⟨Y, 0, none⟩ = some (.int .i64 (0)) := R5h.out.cell 0
    have q1 : W5.cell? ⟨Y, 1, none⟩ = some (.int .i64 (0)) := R5h.out.cell 1
    have q2 : W5.cell? ⟨Y, 2, none⟩ = some (.string (⟨#[]⟩)) := R5h.out.cell 2
    have q3 : W5.cell? ⟨Y, 3, none⟩ = some (.int .i64 (0)) := R5h.out.cell 3
    have q4 : W5.cell? ⟨Y, 4, none⟩ = some (.string (⟨#[]⟩)) := R5h.out.cell 4
    refine bodyPost_ret (v := tokV (0) (0) (⟨#[]⟩) (0) (⟨#[]⟩)) (by simp [results, Tryd.results16, go_sem, q0, q1, q2, q3, q4, tokV]; try rfl) rfl ?_
    exact ⟨by rw [RES.out], hy ▸ B5h.out⟩
end Go.Proofs.YtffneogphgodnaaDoor
