/-
  THE LAW BitsBack AS A WALK: the loops.
-/
import Derived.Test.YtpnkdpmhphhenaaBackLaw
namespace Go.Proofs.Ytpnkdpmhphhenaa
open Go.RowKit Go.Sort
def catT : List Thg → ByteArray
  | [] => ⟨#[]⟩
  | x :: l => x.bytes ++ catT l
theorem cat_nil (s : ByteArray) : s ++ (⟨#[]⟩ : ByteArray) = s := bytes_ext (by rw [cat_data]; simp)
theorem nil_cat (s : ByteArray) : (⟨#[]⟩ : ByteArray) ++ s = s := bytes_ext (by rw [cat_data]; simp)
theorem cat_assoc (a b c : ByteArray) : a ++ b ++ c = a ++ (b ++ c) := bytes_ext (by simp only [cat_data, List.append_assoc])
theorem catT_append (l r : List Thg) : catT (l ++ r) = catT l ++ catT r := by
  induction l with
  | nil => exact (nil_cat _).symm
  | cons x l ih => simp only [List.cons_append, catT, ih, cat_assoc]
theorem catT_snoc (l : List Thg) (k : Nat) (h : k < l.length) : catT (l.take (k + 1)) = catT (l.take k) ++ l[k].bytes := by
  rw [List.take_succ_eq_append_getElem h, catT_append]
  simp only [catT, cat_nil]
theorem catT_drop (l : List Thg) (k : Nat) (h : k < l.length) : catT (l.drop k) = l[k].bytes ++ catT (l.drop (k + 1)) := by
  rw [List.drop_eq_getElem_cons h]; rfl
theorem catT_take_le (l : List Thg) (k : Nat) : (catT (l.take k)).size ≤ (catT l).size := by
  have := congrArg ByteArray.size (congrArg catT (List.take_append_drop k l))
  rw [catT_append, ByteArray.size_append] at this
  omega
theorem catT_drop_le (l : List Thg) (k : Nat) : (catT (l.drop k)).size ≤ (catT l).size := by
  have := congrArg ByteArray.size (congrArg catT (List.take_append_drop k l))
  rw [catT_append, ByteArray.size_append] at this
  omega
/-- the things of a slice that is read -/
def Things (w : World) (a : Option Addr) (l : List Thg) : Prop := ∀ i (h : i < l.length), ∃ b o, a = some ⟨b, o, none⟩ ∧ b < w.heap.size ∧
  w.cell? ⟨b, o + i * 6, none⟩ = some (.int .u8 l[i].k) ∧ w.cell? ⟨b, o + i * 6 + 1, none⟩ = some (.int .u64 (l[i].n : Int)) ∧ w.cell? ⟨b, o + i * 6 + 2, none⟩ = some (.int .i64 l[i].m) ∧
  w.cell? ⟨b, o + i * 6 + 3, none⟩ = some (.float .f64 l[i].f) ∧ w.cell? ⟨b, o + i * 6 + 4, none⟩ = some (.string l[i].s) ∧ w.cell? ⟨b, o + i * 6 + 5, none⟩ = some (.bool l[i].c)
theorem catT_le50 (l : List Thg) (k : Nat) (h : k ≤ 50) : (catT (l.take k)).size ≤ (catT (l.take 50)).size := by
  have e : l.take k = (l.take 50).take k := by rw [List.take_take, Nat.min_eq_left h]
  rw [e]; exact catT_take_le _ _
theorem below_grown3 {v w w' : World} {b : Nat} (h : Below v.heap.size v w) (hg : w.grownBy w' (some b)) (hb : v.heap.size ≤ b) : Below v.heap.size v w' :=
  ⟨hg.os.trans h.os, hg.tape.trans h.tape, hg.output.trans h.output, Nat.le_trans h.size hg.size, fun k hk => (hg.block k (Nat.lt_of_lt_of_le hk h.size) (by simp; omega)).trans (h.block k hk)⟩
set_option maxHeartbeats 4000000 in
theorem back_law (l : List Thg) (a : Option Addr) (c : Nat) (more : ByteArray) (w : World) (N : Nat) (hN : N = (l.take 50).length) (_hcap : l.length ≤ c) (hok : ∀ x ∈ l, x.ok) (hz : (catT (l.take 50)).size + more.size ≤ 281474976710656) (h : Things w a l) :
    Calls Try.prog 7 #[.slice a l.length c, .string more] w fun e w' => e = .returned (.bool true) ∧ Below w.heap.size w w' := by
  have HO := Lib.hid hok
  have H := Lib.hid h
  have hNl : N ≤ l.length := by rw [hN, List.length_take]; omega
  have hN5 : N ≤ 50 := by rw [hN, List.length_take]; omega
  have hN6 : N = l.length ∨ N = 50 := by rw [hN, List.length_take]; omega
  have HZ := Lib.hid hz
  have hms : Hid (more.size ≤ 281474976710656) := by unfold Hid; omega
  have HN := Lib.hid hN
  clear hok h hz hN
  generalize hL : l.length = L at *
  have HL := Lib.hid hL
  clear hL
  go_enter Try.func7, Try.ntmps7
  go_wp2_with fail
  go_loopw [5, 6] (fun s i wr => Below w.heap.size w wr ∧ ∃ k : Nat, i = .int .i64 (k : Int) ∧ k ≤ N ∧ s = .string (catT (l.take k))) (fun _ i _ => N - (intOf i).toNat)
  case atStart => exact ⟨Below.refl _ _, 0, rfl, by omega, rfl⟩
  case round =>
    obtain ⟨hb, k, rfl, hk, rfl⟩ := hrel
    by_cases hlt : k < N
    · have hkl : k < l.length := by rw [HL.out]; omega
      obtain ⟨g, o, ea, gl, c0, c1, c2, c3, c4, c5⟩ := H.out k hkl
      subst ea
      rw [← hb.cell (p := ⟨g, _, none⟩) gl] at c0 c1 c2 c3 c4 c5
      have hsn := Lib.hid (catT_snoc l k hkl)
      have hw := Lib.hid (written_any l[k] (HO.out _ (List.getElem_mem hkl)))
      unfold Thg.val at hw
      generalize l[k] = x at *
      generalize catT (l.take k) = u at *
      have hk1 : (k : Int) < (L : Int) := by omega
      have hk2 : (k : Int) < 50 := by omega
      have hsz := catT_le50 l (k + 1) (by omega)
      rw [hsn.out, ByteArray.size_append] at hsz
      have hus : u.size + x.bytes.size ≤ 9223372036854775807 := by have := HZ.out; omega
      clear hsz
      generalize x.bytes = y at *
      go_wp2_with fail
      refine (hw.out _).mono ?_
      rintro r w1 ⟨rfl, b1⟩
      go_wp2_with fail
      go_roundw
      case rel => exact ⟨hb.trans (b1.mono hb.size), k + 1, by go_num, by omega, by rw [hsn.out]⟩
      case measure => simp [intOf]; omega
    · obtain rfl : k = N := by omega
      have hT : l.take k = l.take 50 := by
        rcases hN6 with e | e
        · rw [List.take_of_length_le (by rw [HL.out]; omega), List.take_of_length_le (by rw [HL.out]; omega)]
        · rw [e]
      rw [hT]
      have HT := Lib.hid hT
      clear hT
      have hD : Hid (catT ((l.take 50).drop 0) ++ more = catT (l.take 50) ++ more) := rfl
      have hDN : Hid (catT ((l.take 50).drop k) ++ more = more) := by
        unfold Hid
        rw [List.drop_of_length_le (by rw [← HN.out]; exact Nat.le_refl _)]
        exact nil_cat _
      have hDs : Hid (∀ j (hj : j < k), ∃ hjl : j < l.length, catT ((l.take 50).drop j) ++ more = l[j].bytes ++ (catT ((l.take 50).drop (j + 1)) ++ more)) := by
        intro j hj
        refine ⟨by rw [HL.out]; omega, ?_⟩
        rw [catT_drop _ _ (by rw [← HN.out]; exact hj), cat_assoc, List.getElem_take]
      have hDz : Hid (∀ j, (catT ((l.take 50).drop j) ++ more).size ≤ 281474976710656) := by
        intro j
        have := catT_drop_le (l.take 50) j
        have := HZ.out
        rw [ByteArray.size_append]; omega
      have hz2 := HZ.out
      have hat := Lib.hid (fun w => at_any (catT (l.take 50) ++ more) w (by rw [ByteArray.size_append]; exact hz2))
      generalize catT (l.take 50) = u at *
      have hus : u.size + more.size ≤ 9223372036854775807 := by omega
      clear hz2
      by_cases hkL : k < L
      · have hp1 : (k : Int) < (L : Int) := by omega
        have hp2 : ¬ (k : Int) < 50 := by omega
        go_wp2_with fail
        refine (hat.out _).mono ?_
        rintro r w1 ⟨B, rfl, hB, t1, b1⟩
        have c1 := hb.trans (b1.mono hb.size)
        have hB2 : w.heap.size ≤ B := Nat.le_trans hb.size hB
        go_wp2_with fail
        refine (awake_any _).mono ?_
        rintro r w2 ⟨rfl, b2⟩
        have c2 := c1.trans (b2.mono c1.size)
        have t2 := t1.next b2
        go_wp2_with fail
        go_loopw [8] (fun i wr => Below w.heap.size w wr ∧ ∃ j : Nat, i = .int .i64 (j : Int) ∧ j ≤ k ∧ TapeAt wr B (catT ((l.take 50).drop j) ++ more) 0) (fun i _ => k - (intOf i).toNat)
        case atStart => exact ⟨c2, 0, rfl, by omega, by rw [hD.out]; exact t2⟩
        case round =>
          obtain ⟨hb, j, rfl, hj, ht⟩ := hrel
          by_cases hlt2 : j < k
          · obtain ⟨hjl, hjd⟩ := hDs.out j hlt2
            have hzj := hDz.out j
            rw [hjd] at ht hzj
            obtain ⟨g, o, ea, gl, d0, d1, d2, d3, d4, d5⟩ := H.out j hjl
            subst ea
            rw [← hb.cell (p := ⟨g, _, none⟩) gl] at d0 d1 d2 d3 d4 d5
            have hw := Lib.hid (again_any l[j] (HO.out _ (List.getElem_mem hjl)) _ ht hzj)
            unfold Thg.val at hw
            generalize l[j] = x at *
            have hk1 : (j : Int) < (L : Int) := by omega
            have hk2 : (j : Int) < 50 := by omega
            go_wp2_with fail
            refine hw.out.mono ?_
            rintro r w3 ⟨rfl, g3, t3⟩
            go_wp2_with fail
            refine (err_any t3).mono ?_
            rintro r w4 ⟨rfl, rfl⟩
            go_wp2_with fail
            go_roundw
            case rel => exact ⟨below_grown3 hb g3 hB2, j + 1, by go_num, by omega, t3⟩
            case measure => simp [intOf]; omega
          · obtain rfl : j = k := by omega
            rw [hDN.out] at ht
            have hq1 : (j : Int) < (L : Int) := by omega
            have hq2 : ¬ (j : Int) < 50 := by omega
            go_wp2_with fail
            refine (rest_any ht hms.out).mono ?_
            rintro r w3 ⟨rfl, b3⟩
            go_wp2_with fail
            go_ret
            exact ⟨rfl, hb.trans (b3.mono hb.size)⟩
      · have hp1 : ¬ (k : Int) < (L : Int) := by omega
        go_wp2_with fail
        refine (hat.out _).mono ?_
        rintro r w1 ⟨B, rfl, hB, t1, b1⟩
        have c1 := hb.trans (b1.mono hb.size)
        have hB2 : w.heap.size ≤ B := Nat.le_trans hb.size hB
        go_wp2_with fail
        refine (awake_any _).mono ?_
        rintro r w2 ⟨rfl, b2⟩
        have c2 := c1.trans (b2.mono c1.size)
        have t2 := t1.next b2
        go_wp2_with fail
        go_loopw [8] (fun i wr => Below w.heap.size w wr ∧ ∃ j : Nat, i = .int .i64 (j : Int) ∧ j ≤ k ∧ TapeAt wr B (catT ((l.take 50).drop j) ++ more) 0) (fun i _ => k - (intOf i).toNat)
        case atStart => exact ⟨c2, 0, rfl, by omega, by rw [hD.out]; exact t2⟩
        case round =>
          obtain ⟨hb, j, rfl, hj, ht⟩ := hrel
          by_cases hlt2 : j < k
          · obtain ⟨hjl, hjd⟩ := hDs.out j hlt2
            have hzj := hDz.out j
            rw [hjd] at ht hzj
            obtain ⟨g, o, ea, gl, d0, d1, d2, d3, d4, d5⟩ := H.out j hjl
            subst ea
            rw [← hb.cell (p := ⟨g, _, none⟩) gl] at d0 d1 d2 d3 d4 d5
            have hw := Lib.hid (again_any l[j] (HO.out _ (List.getElem_mem hjl)) _ ht hzj)
            unfold Thg.val at hw
            generalize l[j] = x at *
            have hk1 : (j : Int) < (L : Int) := by omega
            have hk2 : (j : Int) < 50 := by omega
            go_wp2_with fail
            refine hw.out.mono ?_
            rintro r w3 ⟨rfl, g3, t3⟩
            go_wp2_with fail
            refine (err_any t3).mono ?_
            rintro r w4 ⟨rfl, rfl⟩
            go_wp2_with fail
            go_roundw
            case rel => exact ⟨below_grown3 hb g3 hB2, j + 1, by go_num, by omega, t3⟩
            case measure => simp [intOf]; omega
          · obtain rfl : j = k := by omega
            rw [hDN.out] at ht
            have hq1 : ¬ (j : Int) < (L : Int) := by omega
            go_wp2_with fail
            refine (rest_any ht hms.out).mono ?_
            rintro r w3 ⟨rfl, b3⟩
            go_wp2_with fail
            go_ret
            exact ⟨rfl, hb.trans (b3.mono hb.size)⟩
end Go.Proofs.Ytpnkdpmhphhenaa
