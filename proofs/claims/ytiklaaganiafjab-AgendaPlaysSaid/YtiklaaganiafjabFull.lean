/-
  THE LAW AgendaFull AS A WALK.
-/
import Derived.Test.YtiklaaganiafjabDrop
namespace Go.Proofs.Ytiklaaganiafjab
open Go.RowKit
/-- whole numbers in memory -/
def Ints (w : World) (a : Option Addr) (xs : List Int) : Prop := ∀ i (h : i < xs.length), ∃ b o, a = some ⟨b, o, none⟩ ∧ b < w.heap.size ∧ w.cell? ⟨b, o + i, none⟩ = some (.int .i64 xs[i])
theorem Ints.below {w w' : World} {a : Option Addr} {xs : List Int} (h : Ints w a xs) (hb : Below w.heap.size w w') : Ints w' a xs := fun i hi => by
  obtain ⟨b, o, e, hl, hc⟩ := h i hi
  exact ⟨b, o, e, Nat.lt_of_lt_of_le hl hb.size, by rw [hb.cell (p := ⟨b, _, none⟩) hl]; exact hc⟩
/-- the numbers of the items are 1 to k -/
def IdsUpto (R : List It) (k : Nat) : Prop := R.length = k ∧ ∀ d : Int, (∃ x ∈ R, x.i = d) ↔ (1 ≤ d ∧ d ≤ k)
theorem ids_next {R : List It} {k : Nat} (h : IdsUpto R k) (t x : Int) : IdsUpto (ins ⟨t, (k : Int) + 1, x⟩ R) (k + 1) := by
  have hp := ins_perm ⟨t, (k : Int) + 1, x⟩ R
  refine ⟨by rw [hp.length_eq, List.length_cons, h.1], fun d => ?_⟩
  have h2 := h.2 d
  constructor
  · rintro ⟨y, hy, e⟩
    rcases List.mem_cons.1 (hp.mem_iff.1 hy) with rfl | hy
    · simp only at e; omega
    · have := h2.1 ⟨y, hy, e⟩; omega
  · intro hd
    by_cases e : d = (k : Int) + 1
    · exact ⟨⟨t, (k : Int) + 1, x⟩, hp.mem_iff.2 (by simp), e.symm⟩
    · obtain ⟨y, hy, e⟩ := h2.2 (by omega)
      exact ⟨y, hp.mem_iff.2 (List.mem_cons_of_mem _ hy), e⟩
theorem filter_len : ∀ {R : List It} {id : Int}, R.Pairwise (fun x y => x.i ≠ y.i) → (∃ x ∈ R, x.i = id) → (R.filter (fun x => x.i != id)).length + 1 = R.length
  | [], id, _, h => by obtain ⟨x, hx, _⟩ := h; simp at hx
  | y :: R, id, hd, h => by
    by_cases e : y.i = id
    · rw [List.filter_cons, if_neg (by simp [e]), filter_none (fun x hx => by have := List.rel_of_pairwise_cons hd hx; rw [← e]; exact fun e' => this e'.symm)]
      simp
    · rw [List.filter_cons, if_pos (by simp [e]), List.length_cons, List.length_cons]
      have := filter_len (R := R) (id := id) (List.Pairwise.of_cons hd) (by
        obtain ⟨x, hx, hxe⟩ := h
        rcases List.mem_cons.1 hx with rfl | hx
        · exact absurd hxe e
        · exact ⟨x, hx, hxe⟩)
      omega
theorem Agd.ids {w : World} {B A : Nat} {Z : Int} {r : Option Nat} {R : List It} (h : Agd w B A Z r R) : R.Pairwise (fun x y => x.i ≠ y.i) := by
  obtain ⟨_, _, _, _, _, _, _, _, h⟩ := h
  exact h
set_option maxHeartbeats 4000000 in
set_option maxRecDepth 100000 in
theorem full_law (a : Option Addr) (c : Nat) (xs : List Int) (drop : Int) (w : World) (_hl : xs.length ≤ 9223372036854775807) (hx : Ints w a xs) :
    Calls Try.prog 6 #[.slice a xs.length c, .int .i64 drop] w fun e w' => e = .returned (.bool true) ∧ Below w.heap.size w w' := by
  have HX := Lib.hid hx
  clear hx
  go_enter Try.func6, Try.ntmps6
  go_wp2_with fail
  refine (new_any w w.heap.size).mono ?_
  rintro e w1 ⟨rfl, b1, s1, g1⟩
  have S1 := Lib.hid s1
  have HB1 := Lib.hid b1
  have G1 := Lib.hid g1
  clear b1 s1 g1
  go_wp2_with fail
  refine (awake_any w1).mono ?_
  rintro e w2 ⟨rfl, b2⟩
  have HB2 := Lib.hid (HB1.out.trans (b2.mono HB1.out.size))
  have G2 := Lib.hid (G1.out.below b2)
  clear b2 G1
  go_wp2_with fail
  go_loopw [6] (fun i wr => ∃ (k : Nat) (r : Option Nat) (R : List It), i = .int .i64 k ∧ k ≤ 4096 ∧ IdsUpto R k ∧ Agd wr w.heap.size w.heap.size k r R ∧ Tch w2 wr w.heap.size none r) (fun i _ => 4096 - (intOf i).toNat)
  case atStart => exact ⟨0, none, [], rfl, by omega, ⟨rfl, fun d => ⟨fun ⟨x, hx, _⟩ => by simp at hx, fun h => by omega⟩⟩, G2.out, Tch.refl _ _ _⟩
  case round =>
    obtain ⟨k, r, R, rfl, hk, hI, hG, hT⟩ := hrel
    have HB := Lib.hid (tch_below HB2.out hT)
    have HG := Lib.hid hG
    have HT := Lib.hid hT
    have HI := Lib.hid hI
    clear hG hT hI
    by_cases hlt : k < 4096
    · have hadd := fun t => add_any wr w.heap.size w.heap.size k r R t k HG.out (by rw [HI.out.1]; exact hlt) (by omega) (by omega) HB.out.size
      have fin : ∀ t e w', Added wr w.heap.size w.heap.size k r R t k e w' → ∃ (r' : Option Nat) (R' : List It), e = .returned (.tuple #[.int .i64 ((k : Int) + 1), .int .i64 0]) ∧ IdsUpto R' (k + 1) ∧ Agd w' w.heap.size w.heap.size ((k + 1 : Nat) : Int) r' R' ∧ Tch w2 w' w.heap.size none r' := by
        rintro t e w' ⟨r', he, hg, ht⟩
        exact ⟨r', _, he, ids_next HI.out t k, hg, HT.out.trans ht⟩
      have FIN := Lib.hid fin
      have HADD := Lib.hid hadd
      clear fin hadd
      by_cases hin : k < xs.length
      · obtain ⟨b, o, rfl, hbl, hc⟩ := HX.out k hin
        have hc' : wr.cell? ⟨b, o + k, none⟩ = some (.int .i64 xs[k]) := by rw [HB.out.cell (p := ⟨b, _, none⟩) hbl]; exact hc
        clear hc
        go_wp2_with fail
        refine (HADD.out _).mono ?_
        rintro e w3 hpost
        obtain ⟨r', R', rfl, i3, g3, t3⟩ := FIN.out _ _ _ hpost
        clear hpost
        go_wp2_with fail
        go_roundw
        case rel => exact ⟨k + 1, r', R', by go_num, by omega, i3, g3, t3⟩
        case measure => simp [intOf]; omega
      · have hin' : (xs.length : Int) ≤ k := by omega
        go_wp2_with fail
        refine (HADD.out _).mono ?_
        rintro e w3 hpost
        obtain ⟨r', R', rfl, i3, g3, t3⟩ := FIN.out _ _ _ hpost
        clear hpost
        go_wp2_with fail
        go_roundw
        case rel => exact ⟨k + 1, r', R', by go_num, by omega, i3, g3, t3⟩
        case measure => simp [intOf]; omega
    · obtain rfl : k = 4096 := by omega
      go_wp2_with fail
      refine (add_full wr w.heap.size w.heap.size _ r R 1 2 HG.out HI.out.1).mono ?_
      rintro e w3 ⟨rfl, rfl⟩
      go_wp2_with fail
      refine (len_any wr w.heap.size w.heap.size _ r R HG.out).mono ?_
      rw [HI.out.1]
      rintro e w3 ⟨rfl, rfl⟩
      go_wp2_with fail
      refine (drop_any wr w.heap.size w.heap.size _ r R drop HG.out).mono ?_
      rintro e w4 ⟨r4, rfl, g4, t4⟩
      have hin := HI.out.2 drop
      by_cases hd : 1 ≤ drop ∧ drop ≤ 4096
      · have hex := hin.2 (by omega)
        rw [decide_eq_true hex]
        have L4 := Lib.hid (filter_len HG.out.ids hex)
        have N4 : Hid (¬ ∃ x ∈ R.filter (fun x => x.i != drop), x.i = drop) := Lib.hid (by
          rintro ⟨x, hx, e⟩
          have := (List.mem_filter.1 hx).2
          simp [e] at this)
        obtain ⟨hd1, hd2⟩ := hd
        have G4 := Lib.hid g4
        have T4 := Lib.hid (HT.out.trans t4)
        clear hin hex g4 t4
        go_wp2_with fail
        refine (drop_any w4 w.heap.size w.heap.size _ r4 _ drop G4.out).mono ?_
        rintro e w5 ⟨r5, rfl, g5, t5⟩
        rw [decide_eq_false N4.out]
        rw [filter_none (fun x hx e => N4.out ⟨x, hx, e⟩)] at g5
        have G5 := Lib.hid g5
        have T5 := Lib.hid (T4.out.trans t5)
        clear g5 t5
        go_wp2_with fail
        refine (add_any w5 w.heap.size w.heap.size _ r5 _ 1 2 G5.out (by have := L4.out; rw [HI.out.1] at this; omega) (by omega) (by omega) (tch_below HB2.out T5.out).size).mono ?_
        rintro e w6 ⟨r6, rfl, g6, t6⟩
        have B6 := Lib.hid (tch_below HB2.out (T5.out.trans t6))
        clear g6 t6
        go_wp2_with fail
        go_ret
        exact ⟨rfl, B6.out⟩
      · have hno : ¬ ∃ x ∈ R, x.i = drop := fun h => hd (by have := hin.1 h; omega)
        rw [decide_eq_false hno]
        rw [filter_none (fun x hx e => hno ⟨x, hx, e⟩)] at g4
        have NO := Lib.hid hno
        have G4 := Lib.hid g4
        have T4 := Lib.hid (HT.out.trans t4)
        clear hin g4 t4 hno
        have D : ∀ w' , Hid (Agd w' w.heap.size w.heap.size ((4096 : Nat) : Int) r4 R → Calls Try.prog 18 #[.pointer (some ⟨w.heap.size, 0, none⟩), .int .i64 drop] w' fun e w'' => e = .returned (.bool false) ∧ ∃ r5, Agd w'' w.heap.size w.heap.size ((4096 : Nat) : Int) r5 R ∧ Tch w' w'' w.heap.size r4 r5) := fun w' => Lib.hid (fun hg => (drop_any w' w.heap.size w.heap.size _ r4 R drop hg).mono (by
          rintro e w5 ⟨r5, rfl, g5, t5⟩
          rw [decide_eq_false NO.out]
          rw [filter_none (fun x hx e => NO.out ⟨x, hx, e⟩)] at g5
          exact ⟨rfl, r5, g5, t5⟩))
        by_cases hd1 : drop < 1
        · clear hd
          go_wp2_with fail
          refine ((D w4).out G4.out).mono ?_
          rintro e w5 ⟨rfl, r5, g5, t5⟩
          have G5 := Lib.hid g5
          have T5 := Lib.hid (T4.out.trans t5)
          clear g5 t5
          go_wp2_with fail
          refine (add_full w5 w.heap.size w.heap.size _ r5 R 1 2 G5.out HI.out.1).mono ?_
          rintro e w6 ⟨rfl, rfl⟩
          go_wp2_with fail
          go_ret
          exact ⟨rfl, tch_below HB2.out T5.out⟩
        · have hd2 : 4096 < drop := by omega
          have hd3 : 1 ≤ drop := by omega
          clear hd hd1
          go_wp2_with fail
          refine ((D w4).out G4.out).mono ?_
          rintro e w5 ⟨rfl, r5, g5, t5⟩
          have G5 := Lib.hid g5
          have T5 := Lib.hid (T4.out.trans t5)
          clear g5 t5
          go_wp2_with fail
          refine (add_full w5 w.heap.size w.heap.size _ r5 R 1 2 G5.out HI.out.1).mono ?_
          rintro e w6 ⟨rfl, rfl⟩
          go_wp2_with fail
          go_ret
          exact ⟨rfl, tch_below HB2.out T5.out⟩
end Go.Proofs.Ytiklaaganiafjab
