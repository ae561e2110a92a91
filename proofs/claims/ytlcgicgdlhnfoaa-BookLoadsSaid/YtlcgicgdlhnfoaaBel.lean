/-
  BookEnds as a walk.
-/
import Derived.Test.YtlcgicgdlhnfoaaBlb
import Derived.Test.YtlcgicgdlhnfoaaBrw
namespace Go.Proofs.Ytlcgicgdlhnfoaa
open Go.RowKit
theorem tm_bounds (a b : Int) (hb : 0 < b) : -b < a.tmod b ∧ a.tmod b < b := ⟨Int.lt_tmod_of_pos a hb, Int.tmod_lt_of_pos a hb⟩
theorem rem_two (a b : Int) (hb : 0 < b) (hb2 : b ≤ 1000) : ∃ n : Nat, (wrap64 (a.tmod b + b)).tmod b = (n : Int) ∧ (n : Int) < b := by
  have h := tm_bounds a b hb
  have hw : wrap64 (a.tmod b + b) = a.tmod b + b := by unfold wrap64; omega
  rw [hw]
  have h2 := Int.tmod_lt_of_pos (a.tmod b + b) hb
  have h3 := Int.tmod_nonneg b (show 0 ≤ a.tmod b + b by omega)
  exact ⟨((a.tmod b + b).tmod b).toNat, by omega, by omega⟩
/-- rows of the call's own -/
def OwnR (w : World) (B : Nat) (v : Value) (ms : List Mv) : Prop := w.ownsRow B 29 1 v ms.length (ms.map (·.1)) ∧ ∀ x ∈ ms, OwnN w B x.1 x.2
theorem OwnR.form {w : World} {B : Nat} {v : Value} {ms : List Mv} (h : OwnR w B v ms) : ∃ a c, v = .slice a ms.length c := own_form h.1
theorem OwnR.rws {w : World} {B : Nat} {a : Option Addr} {n c : Nat} {ms : List Mv} (h : OwnR w B (.slice a n c) ms) {LL : List (List Int)} (e : ms.map (fun x : Mv => x.2) = LL) : Rws w a LL := by
  intro i hi
  have hl : ms.length = LL.length := by rw [← e, List.length_map]
  have hi2 : i < ms.length := by omega
  have e2 : ms[i].2 = LL[i] := by
    have : (ms.map (fun x : Mv => x.2))[i]? = LL[i]? := by rw [e]
    rw [List.getElem?_map, List.getElem?_eq_getElem hi2, List.getElem?_eq_getElem hi] at this
    exact Option.some.inj this
  obtain ⟨q, cq, eq, nn⟩ := (h.2 ms[i] (List.getElem_mem hi2)).nums
  have h0 := h.1
  rcases h.1.2 with ⟨_, e3⟩ | ⟨g, cap, cur, e3, hb, hg, _⟩
  · omega
  · have ea : a = some ⟨g, 0, none⟩ := by
      simp only [Value.slice.injEq] at e3; exact e3.1
    obtain ⟨rfl, rfl, rfl⟩ : a = some ⟨g, 0, none⟩ ∧ n = ms.length ∧ c = cap := by
      simp only [Value.slice.injEq] at e3; exact e3
    refine ⟨g, 0, q, cq, rfl, (Array.getElem?_eq_some_iff.1 hg).1, ?_, by rw [← e2]; exact nn⟩
    rw [Nat.zero_add, h0.cellAt _ (by omega), List.getElem?_map, List.getElem?_eq_getElem hi2, ← e2, ← eq]
    rfl
theorem OwnR.fr {w w' : World} {B : Nat} {v : Value} {ms : List Mv} {P : Nat → Prop} (h : OwnR w B v ms) (f : Fr w w' P) (hP : ∀ q, B ≤ q → ¬ P q) : OwnR w' B v ms :=
  ⟨Fr.own h.1 f (fun q hq => hP q (own_ty h.1 q hq).1), fun x hx => (h.2 x hx).fr f (fun q hq => hP q (own_ty (h.2 x hx) q hq).1)⟩
theorem own_one (w : World) {B : Nat} (hB : B ≤ w.heap.size) (x : Int) : OwnN (w.alloc (.cells #[.int .i64 x] 3)) B (.slice (some ⟨w.heap.size, 0, none⟩) 1 1) [x] :=
  ⟨rfl, .inr ⟨w.heap.size, 1, #[.int .i64 x], rfl, hB, Blk.new w 3 _, by simp, by unfold maxLen; omega, rfl, rfl⟩⟩
/-- a row is put behind those that are there -/
theorem re_step {X B : Nat} {wr w3 : World} {bv v v' : Value} {ms : List Mv} {x : Int} (kb : Blk wr X 27 #[bv, v]) (ho : OwnR wr B v ms) (hX : X < B) (hB : B ≤ wr.heap.size)
    (hown : w3.ownsRow B 29 1 v' (ms.length + 1) (ms.map (·.1) ++ [.slice (some ⟨wr.heap.size, 0, none⟩) 1 1])) (hg : ((wr.alloc (.cells #[.int .i64 x] 3)).alloc (.cells #[.slice (some ⟨wr.heap.size, 0, none⟩) 1 1] 29)).grownBy w3 v.ownBlock) :
    Blk w3 X 27 #[bv, v] ∧ Blk (w3.setCell ⟨X, 1, none⟩ v') X 27 #[bv, v'] ∧ OwnR (w3.setCell ⟨X, 1, none⟩ v') B v' (ms ++ [(.slice (some ⟨wr.heap.size, 0, none⟩) 1 1, [x])]) ∧ Fr wr (w3.setCell ⟨X, 1, none⟩ v') (fun q => q = X ∨ B ≤ q) := by
  have bA : Below wr.heap.size wr (wr.alloc (.cells #[.int .i64 x] 3)) := (Below.refl _ _).alloc (Nat.le_refl _) _
  have bB : Below (wr.alloc (.cells #[.int .i64 x] 3)).heap.size (wr.alloc (.cells #[.int .i64 x] 3)) ((wr.alloc (.cells #[.int .i64 x] 3)).alloc (.cells #[.slice (some ⟨wr.heap.size, 0, none⟩) 1 1] 29)) := (Below.refl _ _).alloc (Nat.le_refl _) _
  have f3 : Fr ((wr.alloc (.cells #[.int .i64 x] 3)).alloc (.cells #[.slice (some ⟨wr.heap.size, 0, none⟩) 1 1] 29)) w3 (fun q => v.ownBlock = some q) := (Fr.of_grown hg).mono (fun q _ e => e.symm)
  have fA3 : Fr (wr.alloc (.cells #[.int .i64 x] 3)) w3 (fun q => v.ownBlock = some q) := (Fr.of_below bB _).on f3
  have f13 : Fr wr w3 (fun q => v.ownBlock = some q) := (Fr.of_below bA _).on fA3
  have kb3 : Blk w3 X 27 #[bv, v] := kb.fr f13 (fun e => by have := (own_ty ho.1 X e).1; omega)
  have fs := fr_set w3 X 1 v'
  have el : ∀ x : Mv, OwnN wr B x.1 x.2 → OwnN (w3.setCell ⟨X, 1, none⟩ v') B x.1 x.2 := fun x h => by
    have h3 : OwnN w3 B x.1 x.2 := h.fr f13 (fun q hq e => by
      obtain ⟨_, c, k⟩ := own_ty ho.1 q e
      obtain ⟨_, c2, k2⟩ := own_ty h q hq
      exact absurd (k.ty k2) (by decide))
    exact h3.fr fs (fun q hq e => by have := (own_ty h3 q hq).1; omega)
  have on := own_one wr hB x
  have on3 : OwnN w3 B (.slice (some ⟨wr.heap.size, 0, none⟩) 1 1) [x] := on.fr fA3 (fun q hq e => by
    have : wr.heap.size = q := by simpa [Value.ownBlock] using hq
    have := (World.ownsRow.lt ho.1 q e).2
    omega)
  refine ⟨kb3, kb3.set 1 v', ⟨?_, fun y hm => ?_⟩, (f13.mono (fun q _ e => .inr (own_ty ho.1 q e).1)).on (fs.mono (fun q _ e => .inl e))⟩
  · have := Fr.own hown fs (fun q hq e => by have := (own_ty hown q hq).1; omega)
    rw [List.map_append, List.length_append]
    exact this
  · rcases List.mem_append.1 hm with hm | hm
    · exact el y (ho.2 y hm)
    · rw [List.mem_singleton.1 hm]
      exact on3.fr fs (fun q hq e => by have := (own_ty on3 q hq).1; omega)
theorem pt_sum {base : Int} {LL : List (List Int)} {xs : List Int} (h : ptE base LL xs = 0) : (ptS base LL xs).1 + ((ptS base LL xs).2.length : Int) = base + LL.length + 1 := by
  unfold ptS
  rw [if_pos h]
  by_cases hl : LL.length = 64
  · rw [if_pos hl]; simp only [List.length_append, List.length_drop, List.length_cons, List.length_nil]; omega
  · rw [if_neg hl]; simp only [List.length_append, List.length_cons, List.length_nil]; omega
theorem nums_two (w : World) (i k : Int) : Nums (w.alloc (.cells #[.int .i64 i, .int .i64 k] 3)) (some ⟨w.heap.size, 0, none⟩) [i, k] := fun j hj => by
  have hj0 : j = 0 ∨ j = 1 := by simp at hj; omega
  rcases hj0 with rfl | rfl
  · exact ⟨w.heap.size, 0, rfl, by simp, (Blk.new w 3 #[.int .i64 i, .int .i64 k]).cell 0⟩
  · exact ⟨w.heap.size, 0, rfl, by simp, (Blk.new w 3 #[.int .i64 i, .int .i64 k]).cell 1⟩
theorem row_shr (n : Nat) (hn : n ≤ 64) : Shr (rowI 0 n) ∧ ∀ xs ∈ rowI 0 n, xs.length ≤ 16 ∧ ∀ x ∈ xs, 0 ≤ x ∧ x ≤ 549755813888 := by
  have h : Shr (rowI 0 n) := fun xs hx => by
    unfold rowI at hx
    obtain ⟨i, hi, rfl⟩ := List.mem_map.1 hx
    have := List.mem_range.1 hi
    exact may_one (by omega) (by omega)
  exact ⟨h, fun xs hx => ⟨(mayB_len (h xs hx)).2, mayB_all (h xs hx)⟩⟩
theorem may_12 : mayB [1, 2] = true := by decide
theorem may_1 : mayB [1] = true := by decide
theorem mine_put2 {w0 V : World} {B t : Nat} {b : Int} {L : List (List Int)} (h : Mine w0 B t b L V) (hs : b + (L.length : Int) < 549755813888) :
    Calls Try.prog 11 #[.pointer (some ⟨t, 0, none⟩), .agg #[.slice (some ⟨V.heap.size, 0, none⟩) 2 2]] (V.alloc (.cells #[.int .i64 1, .int .i64 2] 3)) fun e w' => e = .returned (.int .i64 0) ∧ ∃ b2 L2, b2 + (List.length L2 : Int) = b + (L.length : Int) + 1 ∧ Mine w0 B t b2 L2 w' := by
  have hE : ptE b L [1, 2] = 0 := by unfold ptE; rw [if_pos may_12, if_neg (by omega)]
  have h2 := (h.next (BN1 V (.cells #[.int .i64 1, .int .i64 2] 3))).put 2 (nums_two V 1 2) (by decide)
  rw [hE] at h2
  refine h2.mono ?_
  rintro e w' ⟨rfl, hm⟩
  exact ⟨rfl, _, _, pt_sum hE, hm⟩
theorem mine_put1 {w0 V : World} {B t : Nat} {b : Int} {L : List (List Int)} (h : Mine w0 B t b L V) (hs : b + (L.length : Int) = 549755813888) :
    Calls Try.prog 11 #[.pointer (some ⟨t, 0, none⟩), .agg #[.slice (some ⟨V.heap.size, 0, none⟩) 1 1]] (V.alloc (.cells #[.int .i64 1] 3)) fun e w' => e = .returned (.int .i64 2) ∧ Mine w0 B t b L w' := by
  have hE : ptE b L [1] = 2 := by unfold ptE; rw [if_pos may_1, if_pos (by omega)]
  have h2 := (h.next (BN1 V (.cells #[.int .i64 1] 3))).put 1 (nums_one V 1) (by decide)
  have hS : ptS b L [1] = (b, L) := by unfold ptS; rw [if_neg (by rw [hE]; decide)]
  rw [hE, hS] at h2
  exact h2
theorem mine_end {w0 V : World} {B t : Nat} {b : Int} {L : List (List Int)} (h : Mine w0 B t b L V) (hs : b + (L.length : Int) = 549755813888) :
    Calls Try.prog 23 #[.pointer (some ⟨t, 0, none⟩)] V fun e w' => e = .returned (.int .i64 549755813888) ∧ Mine w0 B t b L w' := by
  have := h.end_
  rw [hs] at this
  exact this
set_option maxHeartbeats 8000000 in
set_option maxRecDepth 100000 in
theorem ends_law (a0 a1 : Int) (w : World) : Calls Try.prog 6 #[.int .i64 a0, .int .i64 a1] w fun e w' => e = .returned (.bool true) ∧ Below w.heap.size w w' := by
  obtain ⟨n, en, hn⟩ := rem_two a0 65 (by decide) (by decide)
  obtain ⟨f, ef, hf⟩ := rem_two a1 4 (by decide) (by decide)
  obtain ⟨base, hbase⟩ : ∃ base : Int, 549755813888 - (n : Int) - (f : Int) = base := ⟨_, rfl⟩
  have ew1 : wrap64 (549755813888 - (n : Int)) = 549755813888 - (n : Int) := by unfold wrap64; omega
  have ew2 : wrap64 (549755813888 - (n : Int) - (f : Int)) = base := by unfold wrap64; omega
  have HB := Lib.hid hbase
  have ok : BOk base (rowI 0 n) := ⟨by omega, by rw [rowI_len]; omega, by rw [rowI_len]; omega⟩
  obtain ⟨sh, shn⟩ := row_shr n (by omega)
  have RT := Lib.hid (fun V a c (h : Rws V a (rowI 0 n)) => rtext_any c h ok.b0 (by omega) ok.n shn)
  have tsz : (txtS base (rowI 0 n)).size ≤ 281474976710656 := by
    have h1 := bodS_size (fun xs hx => (shn xs hx).1)
    have h2 := Bt.numS_size base
    have h3 := Bt.numS_size ((rowI 0 n).length : Int)
    have h4 := rowI_len 0 n
    unfold txtS
    rw [ba_size, ba_size]; omega
  have LD : Hid (∀ V, Calls Try.prog 18 #[.string (txtS base (rowI 0 n))] V fun e w' => ∃ t, e = .returned (.tuple #[.pointer (some ⟨t, 0, none⟩), .int .i64 0]) ∧ Mine V V.heap.size t base (rowI 0 n) w') := Lib.hid fun V => by
    refine (load_any tsz V).mono ?_
    rintro e w' (⟨h1, _⟩ | ⟨b, l, t, h1, rfl, hm⟩)
    · rw [pLoad_put ok sh] at h1; cases h1
    · rw [pLoad_put ok sh] at h1
      simp only [Option.some.injEq, Prod.mk.injEq] at h1
      obtain ⟨rfl, rfl⟩ := h1
      exact ⟨t, rfl, hm⟩
  have AW := Lib.hid awake_any
  rw [rowI_len] at RT
  generalize txtS base (rowI 0 n) = TX at *
  obtain ⟨W, hW⟩ : ∃ W, W = w.alloc (.cells #[.int .i64 (549755813888 - (n : Int) - (f : Int)), .slice none 0 0] 27) := ⟨_, rfl⟩
  have kW : Blk W w.heap.size 27 #[.int .i64 base, .slice none 0 0] := by rw [hW, hbase]; exact Blk.new _ _ _
  have bW : Below w.heap.size w W := by rw [hW]; exact (Below.refl _ w).alloc (Nat.le_refl _) _
  have hWs : W.heap.size = w.heap.size + 1 := by rw [hW]; simp
  have KW := Lib.hid kW
  have BW := Lib.hid bW
  have HW := Lib.hid hW
  obtain ⟨i29, hi, hz0, hz1, hz2⟩ := info_parts info29
  clear kW bW hW ok sh shn tsz hbase
  go_enter Try.func6, Try.ntmps6
  go_wp2_with (rw [← HW.out])
  have S0 : Hid (OwnR W W.heap.size (.slice none 0 0) []) := Lib.hid ⟨World.ownsRow_nil _ _ _ _, fun x hx => by simp at hx⟩
  have hnI : (n : Int) ≤ 64 := by omega
  have R0 : Hid ((([] : List Mv).map (fun x : Mv => x.2)) = rowI 0 0) := Lib.hid rfl
  clear HW
  go_loopw [6] (fun i wr => ∃ (j : Nat) (v : Value) (ms : List Mv), i = .int .i64 j ∧ j ≤ n ∧ Hid (ms.map (fun x : Mv => x.2) = rowI 0 j) ∧ Hid (Blk wr w.heap.size 27 #[.int .i64 base, v]) ∧ Hid (OwnR wr W.heap.size v ms) ∧ Hid (Below w.heap.size w wr) ∧ Hid (W.heap.size ≤ wr.heap.size)) (fun i _ => n - (intOf i).toNat)
  case atStart => exact ⟨0, _, [], rfl, Nat.zero_le _, R0, KW, S0, BW, Lib.hid (Nat.le_refl _)⟩
  case round =>
    obtain ⟨j, v, ms, rfl, hj, hE, hK, hO, hB, hS⟩ := hrel
    clear S0 R0 KW BW
    obtain ⟨va, vc, hv⟩ := hO.out.form
    have hml : ms.length = j := by
      have := congrArg List.length hE.out
      rw [List.length_map, rowI_len] at this
      exact this
    rw [hml] at hv
    subst hv
    have HML := Lib.hid hml
    clear hml
    by_cases hjn : j < n
    · have jI : (j : Int) < (n : Int) := by omega
      have jB := decide_eq_true jI
      have c1 : wr.cell? ⟨w.heap.size, 1, none⟩ = some (.slice va j vc) := hK.out.cell 1
      have hjm : j ≤ 64 := by omega
      have OW : Hid (wr.ownsRow W.heap.size 29 1 (.slice va j vc) j (ms.map (·.1))) := Lib.hid (by have := hO.out.1; rw [HML.out] at this; exact this)
      have hWr := hS.out
      clear RT LD AW
      go_wp2_with (at_builtin; refine wpList_append_own _ rfl _ _ 25 rfl W.heap.size 29 i29 (.slice none 0 0) 1 24 Try.underlying25 hi hz0 hz1 hz2 rfl (by decide) (.slice va j vc) j (ms.map (·.1)) rfl ((OW.out.alloc _).alloc _) ⟨wr.heap.size + 1, 0, none⟩ 1 1 [.slice (some ⟨wr.heap.size, 0, none⟩) 1 1] rfl rfl (by have := news29 (W := wr.alloc (.cells #[.int .i64 (j : Int)] 3)) (u := .slice (some ⟨wr.heap.size, 0, none⟩) 1 1); simpa using this) (by simp [Value.oneCell']) (by unfold maxLen; omega) (by omega) (by simp; omega) ?_; intro v' w3 hown hgrow _; obtain ⟨g', cap', rfl⟩ := ownsRow_succ hown; obtain ⟨r1, r2, r3, r4⟩ := re_step (v' := .slice (some ⟨g', 0, none⟩) (j + 1) cap') hK.out hO.out (by omega) hS.out (by rw [HML.out]; exact hown) hgrow; have d1 := r1.cell 1; have e1 := r1.free 1; have R2 := Lib.hid r2; have R3 := Lib.hid r3; have R4 := Lib.hid r4; clear r1 r2 r3 r4 hown hgrow)
      have B4 : Hid (Below w.heap.size w (w3.setCell ⟨w.heap.size, 1, none⟩ (.slice (some ⟨g', 0, none⟩) (j + 1) cap'))) := Lib.hid (hB.out.trans (R4.out.below (fun q h => by rcases h with rfl | h <;> omega) hB.out.size))
      have S4 : Hid (W.heap.size ≤ (w3.setCell ⟨w.heap.size, 1, none⟩ (.slice (some ⟨g', 0, none⟩) (j + 1) cap')).heap.size) := Lib.hid (Nat.le_trans hS.out R4.out.size)
      have E4 : Hid ((ms ++ [(Value.slice (some ⟨wr.heap.size, 0, none⟩) 1 1, [(j : Int)])]).map (fun x : Mv => x.2) = rowI 0 (j + 1)) := Lib.hid (by
        rw [List.map_append, hE.out, ← rowI_snoc, Int.zero_add]; rfl)
      generalize w3.setCell ⟨w.heap.size, 1, none⟩ (.slice (some ⟨g', 0, none⟩) (j + 1) cap') = w4 at *
      clear d1 e1 c1 OW hK hO hB hS
      go_wp2_with fail
      go_roundw
      case rel => exact ⟨j + 1, _, _, by go_num, by omega, E4, R2, R3, B4, S4⟩
      case measure => simp [intOf]; omega
    · obtain rfl : j = n := by omega
      have jI : ¬ (j : Int) < (j : Int) := by omega
      have c0 : wr.cell? ⟨w.heap.size, 0, none⟩ = some (.int .i64 base) := hK.out.cell 0
      have c1 : wr.cell? ⟨w.heap.size, 1, none⟩ = some (.slice va j vc) := hK.out.cell 1
      have RTX := Lib.hid (RT.out wr va vc (hO.out.rws hE.out))
      have hbn : base + (j : Int) = 549755813888 - (f : Int) := by have := HB.out; omega
      clear RT hK hO hE hS
      go_wp2_with fail
      refine RTX.out.mono ?_
      rintro e w1 ⟨rfl, b1⟩
      have B1 := Lib.hid (hB.out.trans (b1.mono hB.out.size))
      clear b1 RTX hB c0 c1
      go_wp2_with fail
      refine (LD.out w1).mono ?_
      rintro e w2 ⟨t, rfl, m2⟩
      have M2 := Lib.hid m2
      clear m2 LD
      go_wp2_with fail
      refine (AW.out _).mono ?_
      rintro e w3 ⟨rfl, b3⟩
      have M3 := Lib.hid (M2.out.next b3)
      clear b3 M2 AW
      have P2 := Lib.hid (fun V b L (h : Mine w1 w1.heap.size t b L V) hs => mine_put2 h hs)
      have P1 := Lib.hid (fun V b L (h : Mine w1 w1.heap.size t b L V) hs => mine_put1 h hs)
      have PE := Lib.hid (fun V b L (h : Mine w1 w1.heap.size t b L V) hs => mine_end h hs)
      have FIN : Hid (∀ V b L, Mine w1 w1.heap.size t b L V → Below w.heap.size w V) := Lib.hid fun V b L h => B1.out.trans (h.bel.mono B1.out.size)
      generalize hM : Mine w1 w1.heap.size t = M at *
      clear hM
      have hs0 : base + ((rowI 0 j).length : Int) = 549755813888 - (f : Int) + ((0 : Nat) : Int) := by rw [rowI_len]; omega
      have HS0 := Lib.hid hs0
      clear hs0
      generalize rowI 0 j = L0 at *
      have hfI : (f : Int) < 4 := hf
      go_wp2_with fail
      go_loopw [9] (fun i wr => ∃ (k : Nat) (b : Int) (L : List (List Int)), i = .int .i64 k ∧ k ≤ f ∧ Hid (b + (L.length : Int) = 549755813888 - (f : Int) + (k : Int)) ∧ Hid (M b L wr)) (fun i _ => f - (intOf i).toNat)
      case atStart => exact ⟨0, base, L0, rfl, Nat.zero_le _, HS0, M3⟩
      case round =>
        obtain ⟨k, b, L, rfl, hk, hs, hm⟩ := hrel
        clear M3 HS0
        by_cases hkf : k < f
        · have kI : (k : Int) < (f : Int) := by omega
          have kB := decide_eq_true kI
          have HP := Lib.hid (P2.out wr b L hm.out (by have := hs.out; omega))
          clear P2 P1 PE FIN hm
          go_wp2_with fail
          refine HP.out.mono ?_
          rintro e w5 ⟨rfl, b2, L2, hs2, m5⟩
          have M5 := Lib.hid m5
          have S5 : Hid (b2 + (L2.length : Int) = 549755813888 - (f : Int) + ((k + 1 : Nat) : Int)) := Lib.hid (by have := hs.out; omega)
          clear m5 hs2 hs HP
          go_wp2_with fail
          go_roundw
          case rel => exact ⟨k + 1, b2, L2, by go_num, by omega, S5, M5⟩
          case measure => simp [intOf]; omega
        · obtain rfl : k = f := by omega
          have kI : ¬ (k : Int) < (k : Int) := by omega
          have HP := Lib.hid (P1.out wr b L hm.out (by have := hs.out; omega))
          have PE2 := Lib.hid (fun V (h : M b L V) => PE.out V b L h (by have := hs.out; omega))
          clear P2 P1 PE hm hs
          go_wp2_with fail
          refine HP.out.mono ?_
          rintro e w5 ⟨rfl, m5⟩
          have HE5 := Lib.hid (PE2.out w5 m5)
          clear m5 HP PE2
          go_wp2_with fail
          refine HE5.out.mono ?_
          rintro e w6 ⟨rfl, m6⟩
          have F := FIN.out _ _ _ m6
          clear m6 HE5 FIN
          go_wp2_with fail
          go_ret
          exact ⟨rfl, F⟩
end Go.Proofs.Ytlcgicgdlhnfoaa
