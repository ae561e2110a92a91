/-
  WHAT THE ROWS REST ON, part 7: Falw.
-/
import Derived.Test.YthdkflmkcoabaaaPart6
/-
  THE LAW ShelfFalls AS A WALK.
-/
namespace Go.Proofs.Ythdkflmkcoabaaa
open Go.RowKit
theorem mod60 (n : Int) : ∃ N : Nat, Int.tmod (Int.tmod n 60 + 60) 60 = (N : Int) ∧ N < 60 := by
  have h1 := Int.lt_tmod_of_pos n (show (0 : Int) < 60 by decide)
  have h2 := Int.tmod_nonneg 60 (show 0 ≤ Int.tmod n 60 + 60 by omega)
  have h3 := Int.tmod_lt_of_pos (Int.tmod n 60 + 60) (show (0 : Int) < 60 by decide)
  exact ⟨(Int.tmod (Int.tmod n 60 + 60) 60).toNat, by omega, by omega⟩
/-- at the head of a round: V the vote's box, X the snapshot's -/
structure Fj (w W : World) (B D V X : Nat) (a b i t m : Int) (s : ByteArray) (sm : Bool) (k : Nat) : Prop where
  d : ∃ S mm, DskQ W B D mm S (fun q => q = V ∨ q = X) ∧ Ok S ∧ S.down = false ∧ S.row = [] ∧ S.room < 0 ∧ mm ≤ 100 * (k + 1) ∧ Says S.sure a b i t m s sm
  v : Blk W V 23 (vC a b)
  x : Blk W X 25 (sC i t m s)
  b : Below B w W
theorem Fj.more {w W W' : World} {B D V X : Nat} {a b i t m : Int} {s : ByteArray} {sm : Bool} {k : Nat} (h : Fj w W B D V X a b i t m s sm k) (hb : Below W.heap.size W W') : Fj w W' B D V X a b i t m s sm (k + 1) := by
  obtain ⟨S, mm, d, h1, h2, h3, h4, h5, h6⟩ := h.d
  exact ⟨⟨S, mm, (d.below hb).1, h1, h2, h3, h4, by omega, h6⟩, h.v.below hb h.v.lt, h.x.below hb h.x.lt, h.b.trans (hb.mono d.base)⟩
theorem Ro.fj {w W : World} {B D V X T mm : Nat} {S : St} {y : Sv} {a b i t m : Int} {s : ByteArray} {sm : Bool} {k : Nat} (h : Ro w W B D V X T mm S y a b i t m s) (ok : Ok S) (hd : S.down = false) (hr : S.row = []) (hro : S.room < 0) (hm : mm ≤ 100 * (k + 1)) (hs : Says S.sure a b i t m s sm) : Fj w W B D V X a b i t m s sm k :=
  ⟨⟨S, mm, h.d.weak (fun _ hq => .inl hq), ok, hd, hr, hro, hm, hs⟩, h.v, h.x, h.b⟩
theorem Fj.trip {w W : World} {B D V X : Nat} {a b i t m : Int} {s : ByteArray} {sm : Bool} {k : Nat} (h : Fj w W B D V X a b i t m s sm k) (n kk : Int) (hn : n ≤ 9223372036854775807) (hk : kk ≤ 9223372036854775807) :
    Calls Try.prog 19 #[.pointer (some ⟨D, 0, none⟩), .int .i64 n, .int .i64 kk] W fun e w' => e = .returned (.tuple #[]) ∧ Fj w w' B D V X a b i t m s sm k := by
  obtain ⟨S, mm, d, ok, h2, h3, h4, h5, h6⟩ := h.d
  refine (tripq n kk d ok hn hk).mono fun e w' ⟨he, d', ok', b', s'⟩ => ⟨he, ⟨_, mm, d', ok', h2, h3, h4, h5, h6⟩, h.v.stay s' (.inl rfl), h.x.stay s' (.inr rfl), h.b.trans b'⟩
/-- the end: the power fails once more -/
theorem Fj.fail {w W : World} {B D V X : Nat} {a b i t m : Int} {s : ByteArray} {sm : Bool} {k : Nat} (h : Fj w W B D V X a b i t m s sm k) (kk : Int) (hk : kk ≤ 9223372036854775807) (hk2 : k ≤ 20) :
    Calls Try.prog 26 #[.pointer (some ⟨D, 0, none⟩), .int .i64 kk] W fun e w' => e = .returned (.tuple #[]) ∧ ∃ S mm, DskQ w' B D mm S (fun q => q = V ∨ q = X) ∧ Ok S ∧ S.row = [] ∧ Says S.sure a b i t m s sm ∧ Blk w' V 23 (vC a b) ∧ Blk w' X 25 (sC i t m s) ∧ Below B w w' := by
  obtain ⟨S, mm, d, ok, h2, h3, h4, h5, h6⟩ := h.d
  refine (failq kk d ok h2 h3 (by omega) hk).mono fun e w' ⟨he, S', d', ok', hd', hr', hs', b', s'⟩ => ⟨he, S', _, d', ok', hr', by rw [hs']; exact h6, h.v.stay s' (.inl rfl), h.x.stay s' (.inr rfl), h.b.trans b'⟩
theorem falls_out {S S' : St} {x : Sv} {n a b i t m : Int} {s : ByteArray} {sm : Bool} (h : Says S.sure a b i t m s sm) (hr : S.row = []) (ok : Ok S) (hro : S.room < 0) (o : SvR S x n S') :
    S'.row = [] ∧ Ok S' ∧ S'.room < 0 ∧ ((x.may = false ∧ n = 1 ∧ S' = S) ∨ (x.may = true ∧ n = 0 ∧ S'.down = false ∧ Says S'.sure (x.newA a) (x.newB b) (x.newI i) (x.newT t) (x.newM m) (x.newS s) (x.newK sm)) ∨
      (x.may = true ∧ n = 8 ∧ S'.down = true ∧ (Says S'.sure a b i t m s sm ∨ Says S'.sure (x.newA a) (x.newB b) (x.newI i) (x.newT t) (x.newM m) (x.newS s) (x.newK sm)))) := by
  rcases o with ⟨hm, o⟩ | ⟨hm, rfl, rfl⟩
  · have hroom : S'.room < 0 := by rw [o.room]; exact hro
    rcases o.all with ⟨rfl, d, hf, hb, hs, t0⟩ | ⟨rfl, d, hx, hb, hs, t0⟩ | ⟨rfl, d, t1, t2, hk⟩
    · exact ⟨o.row, o.ok, hroom, .inr (.inl ⟨hm, rfl, d, h.new hm hf hs⟩)⟩
    · omega
    · refine ⟨o.row, o.ok, hroom, .inr (.inr ⟨hm, rfl, d, ?_⟩)⟩
      rcases hk.2 with h2 | h2
      · exact .inl (h.old x h2 hk.1)
      · exact .inr (h.new hm h2 hk.1)
  · exact ⟨hr, ok, hro, .inl ⟨hm, rfl, rfl⟩⟩
theorem list_eq {s t : ByteArray} (h : (s.toList == t.toList) = true) : s = t := by
  rw [beq_iff_eq, Lib.toList_data, Lib.toList_data] at h
  exact Bt.bytes_ext h
theorem says_eq {F : Fm} {a b i t m a' b' i' t' m' : Int} {s s' : ByteArray} {sm sm' : Bool} (h : Says F a b i t m s sm) (e : ((a == a' && b == b') && (sm == sm' && (i == i' && (t == t' && (m == m' && s.toList == s'.toList))))) = true) : Says F a' b' i' t' m' s' sm' := by
  simp only [Bool.and_eq_true, beq_iff_eq] at e
  obtain ⟨⟨rfl, rfl⟩, rfl, rfl, rfl, rfl, e⟩ := e
  obtain rfl := list_eq (beq_iff_eq.2 e)
  exact h
set_option maxHeartbeats 16000000 in
set_option maxRecDepth 100000 in
theorem falls_law (a : Option Addr) (c : Nat) (L : List Sv) (nn kk : Int) (w : World) (hx : Svs w a L) (_hnn : -9223372036854775808 ≤ nn ∧ nn ≤ 9223372036854775807) (hkk : -9223372036854775808 ≤ kk ∧ kk ≤ 9223372036854775807) :
    Calls Try.prog 6 #[.slice a L.length c, .int .i64 nn, .int .i64 kk] w fun e w' => e = .returned (.bool true) ∧ Below w.heap.size w w' := by
  obtain ⟨N, hN, hN60⟩ := mod60 nn
  have t1 := Int.lt_tmod_of_pos nn (show (0 : Int) < 60 by decide)
  have t2 := Int.tmod_lt_of_pos nn (show (0 : Int) < 60 by decide)
  obtain ⟨r, hr⟩ : ∃ r, Int.tmod nn 60 = r := ⟨_, rfl⟩
  rw [hr] at hN t1 t2
  have HX := Lib.hid hx
  have NW := Lib.hid (newd w)
  have HK := Lib.hid hkk.2
  clear hx hkk
  generalize hn : L.length = n at *
  have HN := Lib.hid hn
  clear hn
  go_enter Try.func6, Try.ntmps6
  go_wp2_with fail
  refine NW.out.mono ?_
  rintro e w1 ⟨D, rfl, d1, b1⟩
  have S1 : Hid (Fj w ((w1.alloc (.cells #[.int .i64 0, .int .i64 (-1)] 23)).alloc (.cells #[.int .i64 0, .int .i64 0, .int .i64 0, .string ⟨#[]⟩] 25)) w.heap.size D w1.heap.size (w1.heap.size + 1) 0 (-1) 0 0 0 ⟨#[]⟩ false 0 ∧ w.heap.size ≤ w1.heap.size) := Lib.hid (by
    obtain ⟨L0, dl⟩ := d1
    have dq : DskQ w1 w.heap.size D 0 st0 (fun _ => False) := ⟨L0, dl, fun q hq => hq.elim⟩
    have p := Pv.start w1 #[.int .i64 0, .int .i64 (-1)] #[.int .i64 0, .int .i64 0, .int .i64 0, .string ⟨#[]⟩]
    have d2 := (dq.more (.cells #[.int .i64 0, .int .i64 (-1)] 23)).more (.cells #[.int .i64 0, .int .i64 0, .int .i64 0, .string ⟨#[]⟩] 25)
    refine ⟨⟨⟨st0, 0, d2.weak (fun q hq => ?_), ok0, rfl, rfl, by decide, by omega, ⟨.inl ⟨rfl, rfl, rfl⟩, .inl ⟨rfl, rfl, rfl, rfl, rfl, rfl⟩⟩⟩, p.v, p.x, b1.trans (p.b.mono b1.size)⟩, b1.size⟩
    rcases hq with rfl | rfl
    · exact .inl (.inr rfl)
    · exact .inr (by simp))
  clear d1 b1 NW
  go_wp2_with fail
  refine (awake_any _).mono ?_
  rintro e w2 ⟨rfl, b2⟩
  have F2 := S1.out.1.more b2
  have TR := Lib.hid (F2.trip (N + 1) kk (by omega) HK.out)
  have VB := Lib.hid S1.out.2
  clear b2 S1 F2
  generalize w1.heap.size = V at *
  go_wp2_with fail
  refine TR.out.mono ?_
  rintro e w3 ⟨rfl, f3⟩
  have S2 := Lib.hid f3
  clear f3 TR hN t1 t2 hr hN60
  go_wp2_with fail
  go_loopw [10, 11] (fun f i wq => ∃ (k : Nat) (va vb xi xt xm : Int) (xs : ByteArray) (sm : Bool), f = .bool sm ∧ i = .int .i64 k ∧ k ≤ 12 ∧ Fj w wq w.heap.size D V (V + 1) va vb xi xt xm xs sm (k + 1)) (fun _ i _ => n + 12 - (intOf i).toNat)
  case atStart => exact ⟨0, _, _, _, _, _, _, _, rfl, rfl, by omega, S2.out⟩
  case round =>
    obtain ⟨k, va, vb, xi, xt, xm, xs, sm, rfl, rfl, hk12, hF⟩ := hrel
    have HF := Lib.hid hF
    have HVV := Lib.hid VB.out
    clear hF S2 VB
    have EX := Lib.hid (HF.out.fail kk HK.out (by omega))
    by_cases hk2 : k < n
    rotate_left
    · have hkn : ¬ (k : Int) < n := by omega
      go_wp2_with fail
      refine EX.out.mono ?_
      rintro e w3 ⟨rfl, S, mm, d, ok, hr, hs, hv, hx, hb⟩
      have WK := Lib.hid (wakeq d ok)
      have FIN : Hid (∀ w4, DskQ w4 w.heap.size D mm { S with down := false } (fun q => q = V ∨ q = V + 1) → Ok { S with down := false } → Below w.heap.size w3 w4 → Stay w3 w4 (fun q => q = V ∨ q = V + 1) → Blk w4 V 23 (vC va vb) ∧ Blk w4 (V + 1) 25 (sC xi xt xm xs) ∧ Below w.heap.size w w4 ∧ Calls Try.prog 25 #[.pointer (some ⟨D, 0, none⟩), voteV va vb, snapV xi xt xm xs, .bool sm] w4 fun e w' => e = .returned (.bool true) ∧ Below w4.heap.size w4 w') := Lib.hid (fun w4 d4 k4 b4 s4 => ⟨hv.stay s4 (.inl rfl), hx.stay s4 (.inr rfl), hb.trans b4, loads_true d4.dsk rfl (k4.alike hr) hs⟩)
      clear d ok hr hs hv hx hb EX
      go_wp2_with fail
      refine WK.out.mono ?_
      rintro e w4 ⟨rfl, d4, k4, b4, s4⟩
      obtain ⟨q1, q2, q3, q4⟩ := FIN.out w4 d4 k4 b4 s4
      have p0 : w4.cell? ⟨V, 0, none⟩ = some (.int .i64 va) := q1.cell 0
      have p1 : w4.cell? ⟨V, 1, none⟩ = some (.int .i64 vb) := q1.cell 1
      have g0 : w4.cell? ⟨V + 1, 0, none⟩ = some (.int .i64 xi) := q2.cell 0
      have g1 : w4.cell? ⟨V + 1, 1, none⟩ = some (.int .i64 xt) := q2.cell 1
      have g2 : w4.cell? ⟨V + 1, 2, none⟩ = some (.int .i64 xm) := q2.cell 2
      have g3 : w4.cell? ⟨V + 1, 3, none⟩ = some (.string xs) := q2.cell 3
      have Q3 := Lib.hid q3
      have Q4 := Lib.hid q4
      unfold voteV snapV at Q4
      clear q1 q2 q3 q4 d4 k4 b4 s4 FIN WK
      go_wp2_with fail
      refine Q4.out.mono ?_
      rintro e w5 ⟨rfl, b5⟩
      have Q5 := Lib.hid (Q3.out.trans (b5.mono Q3.out.size))
      clear b5
      go_wp2_with fail
      go_ret
      exact ⟨rfl, Q5.out⟩
    by_cases hk3 : k < 12
    rotate_left
    · have hkn : (k : Int) < n := by omega
      have hkm : ¬ (k : Int) < 12 := by omega
      go_wp2_with fail
      refine EX.out.mono ?_
      rintro e w3 ⟨rfl, S, mm, d, ok, hr, hs, hv, hx, hb⟩
      have WK := Lib.hid (wakeq d ok)
      have FIN : Hid (∀ w4, DskQ w4 w.heap.size D mm { S with down := false } (fun q => q = V ∨ q = V + 1) → Ok { S with down := false } → Below w.heap.size w3 w4 → Stay w3 w4 (fun q => q = V ∨ q = V + 1) → Blk w4 V 23 (vC va vb) ∧ Blk w4 (V + 1) 25 (sC xi xt xm xs) ∧ Below w.heap.size w w4 ∧ Calls Try.prog 25 #[.pointer (some ⟨D, 0, none⟩), voteV va vb, snapV xi xt xm xs, .bool sm] w4 fun e w' => e = .returned (.bool true) ∧ Below w4.heap.size w4 w') := Lib.hid (fun w4 d4 k4 b4 s4 => ⟨hv.stay s4 (.inl rfl), hx.stay s4 (.inr rfl), hb.trans b4, loads_true d4.dsk rfl (k4.alike hr) hs⟩)
      clear d ok hr hs hv hx hb EX
      go_wp2_with fail
      refine WK.out.mono ?_
      rintro e w4 ⟨rfl, d4, k4, b4, s4⟩
      obtain ⟨q1, q2, q3, q4⟩ := FIN.out w4 d4 k4 b4 s4
      have p0 : w4.cell? ⟨V, 0, none⟩ = some (.int .i64 va) := q1.cell 0
      have p1 : w4.cell? ⟨V, 1, none⟩ = some (.int .i64 vb) := q1.cell 1
      have g0 : w4.cell? ⟨V + 1, 0, none⟩ = some (.int .i64 xi) := q2.cell 0
      have g1 : w4.cell? ⟨V + 1, 1, none⟩ = some (.int .i64 xt) := q2.cell 1
      have g2 : w4.cell? ⟨V + 1, 2, none⟩ = some (.int .i64 xm) := q2.cell 2
      have g3 : w4.cell? ⟨V + 1, 3, none⟩ = some (.string xs) := q2.cell 3
      have Q3 := Lib.hid q3
      have Q4 := Lib.hid q4
      unfold voteV snapV at Q4
      clear q1 q2 q3 q4 d4 k4 b4 s4 FIN WK
      go_wp2_with fail
      refine Q4.out.mono ?_
      rintro e w5 ⟨rfl, b5⟩
      have Q5 := Lib.hid (Q3.out.trans (b5.mono Q3.out.size))
      clear b5
      go_wp2_with fail
      go_ret
      exact ⟨rfl, Q5.out⟩
    have hkn : (k : Int) < n := by omega
    have hkm : (k : Int) < 12 := by omega
    clear EX
    have hkL : k < L.length := by rw [HN.out]; exact hk2
    obtain ⟨g, o, ha, hg, c0, c1, c2, c3, c4, c5, c6⟩ := HX.out.below HF.out.b k hkL
    generalize L[k] = y at *
    by_cases h3 : y.s.size ≤ 3000
    rotate_left
    · have h3' : (3000 : Int) < (y.s.size : Int) := by omega
      have FM := Lib.hid (HF.out.more ((Below.refl _ wr).alloc (Nat.le_refl _) (.cells y.cells 52)))
      obtain ⟨yk, ya, yb, yi, yt, ym, ys⟩ := y
      unfold Sv.cells at FM
      simp only at c0 c1 c2 c3 c4 c5 c6 h3' FM
      subst ha
      clear h3 hg hkL
      go_wp2_with fail
      go_roundw
      case rel => exact ⟨k + 1, _, _, _, _, _, _, _, rfl, by go_num, by omega, FM.out⟩
      case measure => simp [intOf]; omega
    have h3' : ¬ (3000 : Int) < (y.s.size : Int) := by omega
    obtain ⟨S, mm, d, ok, hd, hr, hro, hm, hs⟩ := HF.out.d
    have hT : V + 1 < wr.heap.size := HF.out.x.lt
    have R0 := Ro.start (y := y) d HF.out.v HF.out.x HF.out.b
    have SVC := Lib.hid (save_sv y R0.d ok hd hr (by omega) R0.d.base)
    have OUT := Lib.hid (fun S' n (o : SvR S y n S') => falls_out hs hr ok hro o)
    have R0h := Lib.hid R0
    have HS := Lib.hid hs
    have HT := Lib.hid hT
    have HMM := Lib.hid hm
    have HOK := Lib.hid (And.intro ok (And.intro hd (And.intro hr hro)))
    obtain ⟨yk, ya, yb, yi, yt, ym, ys⟩ := y
    unfold Sv.cells at *
    simp only at c0 c1 c2 c3 c4 c5 c6 h3' SVC OUT R0h
    subst ha
    clear d ok hd hr hro hm hs R0 h3 hg hkL HF hT
    generalize hTT : wr.heap.size = T at *
    go_wp2_with fail
    refine SVC.out.mono ?_
    rintro e w6 ⟨S6, n6, rfl, d6, o6, b6, s6⟩
    obtain ⟨row6, ok6, room6, hh⟩ := OUT.out S6 n6 o6
    have R6 := Lib.hid (R0h.out.next d6 b6 s6)
    have ROW := Lib.hid row6
    have OK6 := Lib.hid ok6
    have ROOM := Lib.hid room6
    clear d6 b6 s6 o6 SVC OUT R0h c0 c1 c2 c3 c4 c5 c6 row6 ok6 room6
    rcases hh with ⟨hmay, rfl, hSS⟩ | ⟨hmay, rfl, dn6, h6⟩ | ⟨hmay, rfl, dn6, h6⟩
    · cases yk
      · skip
        have MAY := Lib.hid (fun W => voted_any ya yb W)
        have hmay : voteB ya yb = false := hmay
        rw [hmay] at MAY
        unfold voteV at MAY
        clear hmay
        have u0 : w6.cell? ⟨T, 0, none⟩ = some (.bool false) := R6.out.t.cell 0
        have u1 : w6.cell? ⟨T, 1, none⟩ = some (.int .i64 ya) := R6.out.t.cell 1
        have u2 : w6.cell? ⟨T, 2, none⟩ = some (.int .i64 yb) := R6.out.t.cell 2
        have u3 : w6.cell? ⟨T, 3, none⟩ = some (.int .i64 yi) := R6.out.t.cell 3
        have u4 : w6.cell? ⟨T, 4, none⟩ = some (.int .i64 yt) := R6.out.t.cell 4
        have u5 : w6.cell? ⟨T, 5, none⟩ = some (.int .i64 ym) := R6.out.t.cell 5
        have u6 : w6.cell? ⟨T, 6, none⟩ = some (.string ys) := R6.out.t.cell 6
        go_wp2_with fail
        refine (MAY.out _).mono ?_
        rintro e w7 ⟨rfl, b7⟩
        have R7 := Lib.hid (R6.out.below b7)
        clear b7 R6 MAY u0 u1 u2 u3 u4 u5 u6
        have FIN : Hid (Fj w w7 w.heap.size D V (V + 1) va vb xi xt xm xs sm (k + 1 + 1)) := Lib.hid (by
          have q := HOK.out
          rw [← hSS] at q
          have hs := HS.out
          rw [← hSS] at hs
          exact R7.out.fj q.1 q.2.1 q.2.2.1 q.2.2.2 (by have := HMM.out; omega) hs)
        clear hSS
        have t0 : w7.cell? ⟨T, 0, none⟩ = some (.bool false) := R7.out.t.cell 0
        go_wp2_with fail
        go_roundw
        case rel => exact ⟨k + 1, _, _, _, _, _, _, _, rfl, by go_num, by omega, FIN.out⟩
        case measure => simp [intOf]; omega
      · skip
        have MAY := Lib.hid (fun W => smay_any yi yt ym ys W)
        have hmay : snapB yi yt ym ys = false := hmay
        rw [hmay] at MAY
        unfold snapV at MAY
        clear hmay
        have u0 : w6.cell? ⟨T, 0, none⟩ = some (.bool true) := R6.out.t.cell 0
        have u1 : w6.cell? ⟨T, 1, none⟩ = some (.int .i64 ya) := R6.out.t.cell 1
        have u2 : w6.cell? ⟨T, 2, none⟩ = some (.int .i64 yb) := R6.out.t.cell 2
        have u3 : w6.cell? ⟨T, 3, none⟩ = some (.int .i64 yi) := R6.out.t.cell 3
        have u4 : w6.cell? ⟨T, 4, none⟩ = some (.int .i64 yt) := R6.out.t.cell 4
        have u5 : w6.cell? ⟨T, 5, none⟩ = some (.int .i64 ym) := R6.out.t.cell 5
        have u6 : w6.cell? ⟨T, 6, none⟩ = some (.string ys) := R6.out.t.cell 6
        go_wp2_with fail
        refine (MAY.out _).mono ?_
        rintro e w7 ⟨rfl, b7⟩
        have R7 := Lib.hid (R6.out.below b7)
        clear b7 R6 MAY u0 u1 u2 u3 u4 u5 u6
        have FIN : Hid (Fj w w7 w.heap.size D V (V + 1) va vb xi xt xm xs sm (k + 1 + 1)) := Lib.hid (by
          have q := HOK.out
          rw [← hSS] at q
          have hs := HS.out
          rw [← hSS] at hs
          exact R7.out.fj q.1 q.2.1 q.2.2.1 q.2.2.2 (by have := HMM.out; omega) hs)
        clear hSS
        have t0 : w7.cell? ⟨T, 0, none⟩ = some (.bool true) := R7.out.t.cell 0
        go_wp2_with fail
        go_roundw
        case rel => exact ⟨k + 1, _, _, _, _, _, _, _, rfl, by go_num, by omega, FIN.out⟩
        case measure => simp [intOf]; omega
    · cases yk
      · skip
        simp only [Sv.newA, Sv.newB, Sv.newI, Sv.newT, Sv.newM, Sv.newS, Sv.newK, if_false, Bool.false_eq_true] at h6
        have MAY := Lib.hid (fun W => voted_any ya yb W)
        have hmay : voteB ya yb = true := hmay
        rw [hmay] at MAY
        unfold voteV at MAY
        clear hmay
        have u0 : w6.cell? ⟨T, 0, none⟩ = some (.bool false) := R6.out.t.cell 0
        have u1 : w6.cell? ⟨T, 1, none⟩ = some (.int .i64 ya) := R6.out.t.cell 1
        have u2 : w6.cell? ⟨T, 2, none⟩ = some (.int .i64 yb) := R6.out.t.cell 2
        have u3 : w6.cell? ⟨T, 3, none⟩ = some (.int .i64 yi) := R6.out.t.cell 3
        have u4 : w6.cell? ⟨T, 4, none⟩ = some (.int .i64 yt) := R6.out.t.cell 4
        have u5 : w6.cell? ⟨T, 5, none⟩ = some (.int .i64 ym) := R6.out.t.cell 5
        have u6 : w6.cell? ⟨T, 6, none⟩ = some (.string ys) := R6.out.t.cell 6
        go_wp2_with fail
        refine (MAY.out _).mono ?_
        rintro e w7 ⟨rfl, b7⟩
        have R7 := Lib.hid (R6.out.below b7)
        clear b7 R6 MAY u0 u1 u2 u3 u4 u5 u6
        have hA := (OK6.out).alike ROW.out
        have LO := Lib.hid (fun W (d : DskQ W w.heap.size D (mm + 40) S6 (fun q => (q = V ∨ q = V + 1) ∨ q = T)) => show Calls Try.prog 25 #[.pointer (some ⟨D, 0, none⟩), .agg #[.int .i64 ya, .int .i64 yb], .agg #[.int .i64 xi, .int .i64 xt, .int .i64 xm, .string xs], .bool sm] W (fun e w' => e = .returned (.bool true) ∧ Below W.heap.size W w') from loads_true d.dsk dn6 hA h6)
        have FI := Lib.hid (fun W (R : Ro w W w.heap.size D V (V + 1) T (mm + 40) S6 ⟨false, ya, yb, yi, yt, ym, ys⟩ ya yb xi xt xm xs) => R.fj (sm := sm) (k := k + 1 + 1) (OK6.out) dn6 ROW.out ROOM.out (by have := HMM.out; omega) h6)
        clear hA
        have u0 : w7.cell? ⟨T, 0, none⟩ = some (.bool false) := R7.out.t.cell 0
        have u1 : w7.cell? ⟨T, 1, none⟩ = some (.int .i64 ya) := R7.out.t.cell 1
        have u2 : w7.cell? ⟨T, 2, none⟩ = some (.int .i64 yb) := R7.out.t.cell 2
        have u3 : w7.cell? ⟨T, 3, none⟩ = some (.int .i64 yi) := R7.out.t.cell 3
        have u4 : w7.cell? ⟨T, 4, none⟩ = some (.int .i64 yt) := R7.out.t.cell 4
        have u5 : w7.cell? ⟨T, 5, none⟩ = some (.int .i64 ym) := R7.out.t.cell 5
        have u6 : w7.cell? ⟨T, 6, none⟩ = some (.string ys) := R7.out.t.cell 6
        have p0 : w7.cell? ⟨V, 0, none⟩ = some (.int .i64 va) := R7.out.v.cell 0
        have p1 : w7.cell? ⟨V, 1, none⟩ = some (.int .i64 vb) := R7.out.v.cell 1
        have q0 : w7.cell? ⟨V + 1, 0, none⟩ = some (.int .i64 xi) := R7.out.x.cell 0
        have q1 : w7.cell? ⟨V + 1, 1, none⟩ = some (.int .i64 xt) := R7.out.x.cell 1
        have q2 : w7.cell? ⟨V + 1, 2, none⟩ = some (.int .i64 xm) := R7.out.x.cell 2
        have q3 : w7.cell? ⟨V + 1, 3, none⟩ = some (.string xs) := R7.out.x.cell 3
        have z0 : w7.frozen? ⟨V, 0, none⟩ = false := R7.out.v.free 0
        have z1 : w7.frozen? ⟨V, 1, none⟩ = false := R7.out.v.free 1
        have RW := Lib.hid (R7.out.setV (by omega) (by have := HT.out; omega) HVV.out ya yb)
        have y0 : ((w7.setCell ⟨V, 0, none⟩ (.int .i64 ya)).setCell ⟨V, 1, none⟩ (.int .i64 yb)).cell? ⟨V, 0, none⟩ = some (.int .i64 ya) := RW.out.v.cell 0
        have y1 : ((w7.setCell ⟨V, 0, none⟩ (.int .i64 ya)).setCell ⟨V, 1, none⟩ (.int .i64 yb)).cell? ⟨V, 1, none⟩ = some (.int .i64 yb) := RW.out.v.cell 1
        have x0 : ((w7.setCell ⟨V, 0, none⟩ (.int .i64 ya)).setCell ⟨V, 1, none⟩ (.int .i64 yb)).cell? ⟨V + 1, 0, none⟩ = some (.int .i64 xi) := RW.out.x.cell 0
        have x1 : ((w7.setCell ⟨V, 0, none⟩ (.int .i64 ya)).setCell ⟨V, 1, none⟩ (.int .i64 yb)).cell? ⟨V + 1, 1, none⟩ = some (.int .i64 xt) := RW.out.x.cell 1
        have x2 : ((w7.setCell ⟨V, 0, none⟩ (.int .i64 ya)).setCell ⟨V, 1, none⟩ (.int .i64 yb)).cell? ⟨V + 1, 2, none⟩ = some (.int .i64 xm) := RW.out.x.cell 2
        have x3 : ((w7.setCell ⟨V, 0, none⟩ (.int .i64 ya)).setCell ⟨V, 1, none⟩ (.int .i64 yb)).cell? ⟨V + 1, 3, none⟩ = some (.string xs) := RW.out.x.cell 3
        go_wp2_with fail
        clear u0 u1 u2 u3 u4 u5 u6 p0 p1 q0 q1 q2 q3 z0 z1 y0 y1 x0 x1 x2 x3
        generalize (w7.setCell ⟨V, 0, none⟩ (.int .i64 ya)).setCell ⟨V, 1, none⟩ (.int .i64 yb) = wz at *
        refine (LO.out _ RW.out.d).mono ?_
        rintro e wy ⟨rfl, by_⟩
        have FIN := Lib.hid (FI.out _ (RW.out.below by_))
        clear by_
        go_wp2_with fail
        go_roundw
        case rel => exact ⟨k + 1, _, _, _, _, _, _, _, rfl, by go_num, by omega, FIN.out⟩
        case measure => simp [intOf]; omega
      · skip
        simp only [Sv.newA, Sv.newB, Sv.newI, Sv.newT, Sv.newM, Sv.newS, Sv.newK, if_true] at h6
        have MAY := Lib.hid (fun W => smay_any yi yt ym ys W)
        have hmay : snapB yi yt ym ys = true := hmay
        rw [hmay] at MAY
        unfold snapV at MAY
        clear hmay
        have u0 : w6.cell? ⟨T, 0, none⟩ = some (.bool true) := R6.out.t.cell 0
        have u1 : w6.cell? ⟨T, 1, none⟩ = some (.int .i64 ya) := R6.out.t.cell 1
        have u2 : w6.cell? ⟨T, 2, none⟩ = some (.int .i64 yb) := R6.out.t.cell 2
        have u3 : w6.cell? ⟨T, 3, none⟩ = some (.int .i64 yi) := R6.out.t.cell 3
        have u4 : w6.cell? ⟨T, 4, none⟩ = some (.int .i64 yt) := R6.out.t.cell 4
        have u5 : w6.cell? ⟨T, 5, none⟩ = some (.int .i64 ym) := R6.out.t.cell 5
        have u6 : w6.cell? ⟨T, 6, none⟩ = some (.string ys) := R6.out.t.cell 6
        go_wp2_with fail
        refine (MAY.out _).mono ?_
        rintro e w7 ⟨rfl, b7⟩
        have R7 := Lib.hid (R6.out.below b7)
        clear b7 R6 MAY u0 u1 u2 u3 u4 u5 u6
        have hA := (OK6.out).alike ROW.out
        have LO := Lib.hid (fun W (d : DskQ W w.heap.size D (mm + 40) S6 (fun q => (q = V ∨ q = V + 1) ∨ q = T)) => show Calls Try.prog 25 #[.pointer (some ⟨D, 0, none⟩), .agg #[.int .i64 va, .int .i64 vb], .agg #[.int .i64 yi, .int .i64 yt, .int .i64 ym, .string ys], .bool true] W (fun e w' => e = .returned (.bool true) ∧ Below W.heap.size W w') from loads_true d.dsk dn6 hA h6)
        have FI := Lib.hid (fun W (R : Ro w W w.heap.size D V (V + 1) T (mm + 40) S6 ⟨true, ya, yb, yi, yt, ym, ys⟩ va vb yi yt ym ys) => R.fj (sm := true) (k := k + 1 + 1) (OK6.out) dn6 ROW.out ROOM.out (by have := HMM.out; omega) h6)
        clear hA
        have u0 : w7.cell? ⟨T, 0, none⟩ = some (.bool true) := R7.out.t.cell 0
        have u1 : w7.cell? ⟨T, 1, none⟩ = some (.int .i64 ya) := R7.out.t.cell 1
        have u2 : w7.cell? ⟨T, 2, none⟩ = some (.int .i64 yb) := R7.out.t.cell 2
        have u3 : w7.cell? ⟨T, 3, none⟩ = some (.int .i64 yi) := R7.out.t.cell 3
        have u4 : w7.cell? ⟨T, 4, none⟩ = some (.int .i64 yt) := R7.out.t.cell 4
        have u5 : w7.cell? ⟨T, 5, none⟩ = some (.int .i64 ym) := R7.out.t.cell 5
        have u6 : w7.cell? ⟨T, 6, none⟩ = some (.string ys) := R7.out.t.cell 6
        have p0 : w7.cell? ⟨V, 0, none⟩ = some (.int .i64 va) := R7.out.v.cell 0
        have p1 : w7.cell? ⟨V, 1, none⟩ = some (.int .i64 vb) := R7.out.v.cell 1
        have q0 : w7.cell? ⟨V + 1, 0, none⟩ = some (.int .i64 xi) := R7.out.x.cell 0
        have q1 : w7.cell? ⟨V + 1, 1, none⟩ = some (.int .i64 xt) := R7.out.x.cell 1
        have q2 : w7.cell? ⟨V + 1, 2, none⟩ = some (.int .i64 xm) := R7.out.x.cell 2
        have q3 : w7.cell? ⟨V + 1, 3, none⟩ = some (.string xs) := R7.out.x.cell 3
        have z0 : w7.frozen? ⟨V + 1, 0, none⟩ = false := R7.out.x.free 0
        have z1 : w7.frozen? ⟨V + 1, 1, none⟩ = false := R7.out.x.free 1
        have z2 : w7.frozen? ⟨V + 1, 2, none⟩ = false := R7.out.x.free 2
        have z3 : w7.frozen? ⟨V + 1, 3, none⟩ = false := R7.out.x.free 3
        have RW := R7.out.setX (by omega) (by have := HT.out; omega) (by have := HVV.out; omega) yi yt ym ys
        unfold set4 at RW
        have RW := Lib.hid RW
        have y0 : ((((w7.setCell ⟨V + 1, 0, none⟩ (.int .i64 yi)).setCell ⟨V + 1, 1, none⟩ (.int .i64 yt)).setCell ⟨V + 1, 2, none⟩ (.int .i64 ym)).setCell ⟨V + 1, 3, none⟩ (.string ys)).cell? ⟨V, 0, none⟩ = some (.int .i64 va) := RW.out.v.cell 0
        have y1 : ((((w7.setCell ⟨V + 1, 0, none⟩ (.int .i64 yi)).setCell ⟨V + 1, 1, none⟩ (.int .i64 yt)).setCell ⟨V + 1, 2, none⟩ (.int .i64 ym)).setCell ⟨V + 1, 3, none⟩ (.string ys)).cell? ⟨V, 1, none⟩ = some (.int .i64 vb) := RW.out.v.cell 1
        have x0 : ((((w7.setCell ⟨V + 1, 0, none⟩ (.int .i64 yi)).setCell ⟨V + 1, 1, none⟩ (.int .i64 yt)).setCell ⟨V + 1, 2, none⟩ (.int .i64 ym)).setCell ⟨V + 1, 3, none⟩ (.string ys)).cell? ⟨V + 1, 0, none⟩ = some (.int .i64 yi) := RW.out.x.cell 0
        have x1 : ((((w7.setCell ⟨V + 1, 0, none⟩ (.int .i64 yi)).setCell ⟨V + 1, 1, none⟩ (.int .i64 yt)).setCell ⟨V + 1, 2, none⟩ (.int .i64 ym)).setCell ⟨V + 1, 3, none⟩ (.string ys)).cell? ⟨V + 1, 1, none⟩ = some (.int .i64 yt) := RW.out.x.cell 1
        have x2 : ((((w7.setCell ⟨V + 1, 0, none⟩ (.int .i64 yi)).setCell ⟨V + 1, 1, none⟩ (.int .i64 yt)).setCell ⟨V + 1, 2, none⟩ (.int .i64 ym)).setCell ⟨V + 1, 3, none⟩ (.string ys)).cell? ⟨V + 1, 2, none⟩ = some (.int .i64 ym) := RW.out.x.cell 2
        have x3 : ((((w7.setCell ⟨V + 1, 0, none⟩ (.int .i64 yi)).setCell ⟨V + 1, 1, none⟩ (.int .i64 yt)).setCell ⟨V + 1, 2, none⟩ (.int .i64 ym)).setCell ⟨V + 1, 3, none⟩ (.string ys)).cell? ⟨V + 1, 3, none⟩ = some (.string ys) := RW.out.x.cell 3
        go_wp2_with fail
        clear u0 u1 u2 u3 u4 u5 u6 p0 p1 q0 q1 q2 q3 z0 z1 z2 z3 y0 y1 x0 x1 x2 x3
        generalize (((w7.setCell ⟨V + 1, 0, none⟩ (.int .i64 yi)).setCell ⟨V + 1, 1, none⟩ (.int .i64 yt)).setCell ⟨V + 1, 2, none⟩ (.int .i64 ym)).setCell ⟨V + 1, 3, none⟩ (.string ys) = wz at *
        refine (LO.out _ RW.out.d).mono ?_
        rintro e wy ⟨rfl, by_⟩
        have FIN := Lib.hid (FI.out _ (RW.out.below by_))
        clear by_
        go_wp2_with fail
        go_roundw
        case rel => exact ⟨k + 1, _, _, _, _, _, _, _, rfl, by go_num, by omega, FIN.out⟩
        case measure => simp [intOf]; omega
    · cases yk
      · skip
        have MAY := Lib.hid (fun W => voted_any ya yb W)
        have hmay : voteB ya yb = true := hmay
        rw [hmay] at MAY
        unfold voteV at MAY
        clear hmay
        have u0 : w6.cell? ⟨T, 0, none⟩ = some (.bool false) := R6.out.t.cell 0
        have u1 : w6.cell? ⟨T, 1, none⟩ = some (.int .i64 ya) := R6.out.t.cell 1
        have u2 : w6.cell? ⟨T, 2, none⟩ = some (.int .i64 yb) := R6.out.t.cell 2
        have u3 : w6.cell? ⟨T, 3, none⟩ = some (.int .i64 yi) := R6.out.t.cell 3
        have u4 : w6.cell? ⟨T, 4, none⟩ = some (.int .i64 yt) := R6.out.t.cell 4
        have u5 : w6.cell? ⟨T, 5, none⟩ = some (.int .i64 ym) := R6.out.t.cell 5
        have u6 : w6.cell? ⟨T, 6, none⟩ = some (.string ys) := R6.out.t.cell 6
        go_wp2_with fail
        refine (MAY.out _).mono ?_
        rintro e w7 ⟨rfl, b7⟩
        have R7 := Lib.hid (R6.out.below b7)
        clear b7 R6 MAY u0 u1 u2 u3 u4 u5 u6
        have DN := Lib.hid (downd R7.out.d.dsk)
        rw [dn6] at DN
        have WK := Lib.hid (wakeq R7.out.d OK6.out)
        go_wp2_with fail
        refine DN.out.mono ?_
        rintro e w8 ⟨rfl, rfl⟩
        go_wp2_with fail
        refine WK.out.mono ?_
        rintro e w8 ⟨rfl, d8, k8, b8, s8⟩
        have R8 := Lib.hid (R7.out.next d8 b8 s8)
        have K8 := Lib.hid k8
        clear d8 k8 b8 s8 DN WK R7
        have hA := K8.out.alike ROW.out
        rcases h6 with h6 | h6
        · have LO := Lib.hid (fun W (d : DskQ W w.heap.size D (mm + 40) { S6 with down := false } (fun q => (q = V ∨ q = V + 1) ∨ q = T)) => show Calls Try.prog 25 #[.pointer (some ⟨D, 0, none⟩), .agg #[.int .i64 va, .int .i64 vb], .agg #[.int .i64 xi, .int .i64 xt, .int .i64 xm, .string xs], .bool sm] W (fun e w' => e = .returned (.bool true) ∧ Below W.heap.size W w') from loads_true d.dsk rfl hA h6)
          have FI := Lib.hid (fun W (R : Ro w W w.heap.size D V (V + 1) T (mm + 40) { S6 with down := false } ⟨false, ya, yb, yi, yt, ym, ys⟩ va vb xi xt xm xs) => R.fj (sm := sm) (k := k + 1 + 1) K8.out rfl ROW.out ROOM.out (by have := HMM.out; omega) h6)
          clear hA h6 dn6
          have p0 : w8.cell? ⟨V, 0, none⟩ = some (.int .i64 va) := R8.out.v.cell 0
          have p1 : w8.cell? ⟨V, 1, none⟩ = some (.int .i64 vb) := R8.out.v.cell 1
          have q0 : w8.cell? ⟨V + 1, 0, none⟩ = some (.int .i64 xi) := R8.out.x.cell 0
          have q1 : w8.cell? ⟨V + 1, 1, none⟩ = some (.int .i64 xt) := R8.out.x.cell 1
          have q2 : w8.cell? ⟨V + 1, 2, none⟩ = some (.int .i64 xm) := R8.out.x.cell 2
          have q3 : w8.cell? ⟨V + 1, 3, none⟩ = some (.string xs) := R8.out.x.cell 3
          go_wp2_with fail
          refine (LO.out _ R8.out.d).mono ?_
          rintro e w9 ⟨rfl, b9⟩
          have FIN := Lib.hid (FI.out _ (R8.out.below b9))
          clear b9 p0 p1 q0 q1 q2 q3
          go_wp2_with fail
          go_roundw
          case rel => exact ⟨k + 1, _, _, _, _, _, _, _, rfl, by go_num, by omega, FIN.out⟩
          case measure => simp [intOf]; omega
        · simp only [Sv.newA, Sv.newB, Sv.newI, Sv.newT, Sv.newM, Sv.newS, Sv.newK, if_false, Bool.false_eq_true] at h6
          have LO0 := Lib.hid (fun W (d : DskQ W w.heap.size D (mm + 40) { S6 with down := false } (fun q => (q = V ∨ q = V + 1) ∨ q = T)) => show Calls Try.prog 25 #[.pointer (some ⟨D, 0, none⟩), .agg #[.int .i64 va, .int .i64 vb], .agg #[.int .i64 xi, .int .i64 xt, .int .i64 xm, .string xs], .bool sm] W (fun e w' => e = .returned (.bool ((ya == va && yb == vb) && (sm == sm && (xi == xi && (xt == xt && (xm == xm && xs.toList == xs.toList)))))) ∧ Below W.heap.size W w') from loads_any d.dsk rfl hA h6)
          have SE := Lib.hid (fun (e : ((ya == va && yb == vb) && (sm == sm && (xi == xi && (xt == xt && (xm == xm && xs.toList == xs.toList))))) = true) => says_eq h6 e)
          clear hA dn6
          have p0 : w8.cell? ⟨V, 0, none⟩ = some (.int .i64 va) := R8.out.v.cell 0
          have p1 : w8.cell? ⟨V, 1, none⟩ = some (.int .i64 vb) := R8.out.v.cell 1
          have q0 : w8.cell? ⟨V + 1, 0, none⟩ = some (.int .i64 xi) := R8.out.x.cell 0
          have q1 : w8.cell? ⟨V + 1, 1, none⟩ = some (.int .i64 xt) := R8.out.x.cell 1
          have q2 : w8.cell? ⟨V + 1, 2, none⟩ = some (.int .i64 xm) := R8.out.x.cell 2
          have q3 : w8.cell? ⟨V + 1, 3, none⟩ = some (.string xs) := R8.out.x.cell 3
          go_wp2_with fail
          refine (LO0.out _ R8.out.d).mono ?_
          rintro e w9 ⟨rfl, b9⟩
          have R9 := Lib.hid (R8.out.below b9)
          clear b9 p0 p1 q0 q1 q2 q3 LO0 R8
          generalize hE : ((ya == va && yb == vb) && (sm == sm && (xi == xi && (xt == xt && (xm == xm && xs.toList == xs.toList))))) = E at *
          cases E
          · clear hE SE
            have hA := (K8.out).alike ROW.out
            have LO := Lib.hid (fun W (d : DskQ W w.heap.size D (mm + 40) { S6 with down := false } (fun q => (q = V ∨ q = V + 1) ∨ q = T)) => show Calls Try.prog 25 #[.pointer (some ⟨D, 0, none⟩), .agg #[.int .i64 ya, .int .i64 yb], .agg #[.int .i64 xi, .int .i64 xt, .int .i64 xm, .string xs], .bool sm] W (fun e w' => e = .returned (.bool true) ∧ Below W.heap.size W w') from loads_true d.dsk rfl hA h6)
            have FI := Lib.hid (fun W (R : Ro w W w.heap.size D V (V + 1) T (mm + 40) { S6 with down := false } ⟨false, ya, yb, yi, yt, ym, ys⟩ ya yb xi xt xm xs) => R.fj (sm := sm) (k := k + 1 + 1) (K8.out) rfl ROW.out ROOM.out (by have := HMM.out; omega) h6)
            clear hA
            have u0 : w9.cell? ⟨T, 0, none⟩ = some (.bool false) := R9.out.t.cell 0
            have u1 : w9.cell? ⟨T, 1, none⟩ = some (.int .i64 ya) := R9.out.t.cell 1
            have u2 : w9.cell? ⟨T, 2, none⟩ = some (.int .i64 yb) := R9.out.t.cell 2
            have u3 : w9.cell? ⟨T, 3, none⟩ = some (.int .i64 yi) := R9.out.t.cell 3
            have u4 : w9.cell? ⟨T, 4, none⟩ = some (.int .i64 yt) := R9.out.t.cell 4
            have u5 : w9.cell? ⟨T, 5, none⟩ = some (.int .i64 ym) := R9.out.t.cell 5
            have u6 : w9.cell? ⟨T, 6, none⟩ = some (.string ys) := R9.out.t.cell 6
            have p0 : w9.cell? ⟨V, 0, none⟩ = some (.int .i64 va) := R9.out.v.cell 0
            have p1 : w9.cell? ⟨V, 1, none⟩ = some (.int .i64 vb) := R9.out.v.cell 1
            have q0 : w9.cell? ⟨V + 1, 0, none⟩ = some (.int .i64 xi) := R9.out.x.cell 0
            have q1 : w9.cell? ⟨V + 1, 1, none⟩ = some (.int .i64 xt) := R9.out.x.cell 1
            have q2 : w9.cell? ⟨V + 1, 2, none⟩ = some (.int .i64 xm) := R9.out.x.cell 2
            have q3 : w9.cell? ⟨V + 1, 3, none⟩ = some (.string xs) := R9.out.x.cell 3
            have z0 : w9.frozen? ⟨V, 0, none⟩ = false := R9.out.v.free 0
            have z1 : w9.frozen? ⟨V, 1, none⟩ = false := R9.out.v.free 1
            have RW := Lib.hid (R9.out.setV (by omega) (by have := HT.out; omega) HVV.out ya yb)
            have y0 : ((w9.setCell ⟨V, 0, none⟩ (.int .i64 ya)).setCell ⟨V, 1, none⟩ (.int .i64 yb)).cell? ⟨V, 0, none⟩ = some (.int .i64 ya) := RW.out.v.cell 0
            have y1 : ((w9.setCell ⟨V, 0, none⟩ (.int .i64 ya)).setCell ⟨V, 1, none⟩ (.int .i64 yb)).cell? ⟨V, 1, none⟩ = some (.int .i64 yb) := RW.out.v.cell 1
            have x0 : ((w9.setCell ⟨V, 0, none⟩ (.int .i64 ya)).setCell ⟨V, 1, none⟩ (.int .i64 yb)).cell? ⟨V + 1, 0, none⟩ = some (.int .i64 xi) := RW.out.x.cell 0
            have x1 : ((w9.setCell ⟨V, 0, none⟩ (.int .i64 ya)).setCell ⟨V, 1, none⟩ (.int .i64 yb)).cell? ⟨V + 1, 1, none⟩ = some (.int .i64 xt) := RW.out.x.cell 1
            have x2 : ((w9.setCell ⟨V, 0, none⟩ (.int .i64 ya)).setCell ⟨V, 1, none⟩ (.int .i64 yb)).cell? ⟨V + 1, 2, none⟩ = some (.int .i64 xm) := RW.out.x.cell 2
            have x3 : ((w9.setCell ⟨V, 0, none⟩ (.int .i64 ya)).setCell ⟨V, 1, none⟩ (.int .i64 yb)).cell? ⟨V + 1, 3, none⟩ = some (.string xs) := RW.out.x.cell 3
            go_wp2_with fail
            clear u0 u1 u2 u3 u4 u5 u6 p0 p1 q0 q1 q2 q3 z0 z1 y0 y1 x0 x1 x2 x3
            generalize (w9.setCell ⟨V, 0, none⟩ (.int .i64 ya)).setCell ⟨V, 1, none⟩ (.int .i64 yb) = wz at *
            refine (LO.out _ RW.out.d).mono ?_
            rintro e wy ⟨rfl, by_⟩
            have FIN := Lib.hid (FI.out _ (RW.out.below by_))
            clear by_
            go_wp2_with fail
            go_roundw
            case rel => exact ⟨k + 1, _, _, _, _, _, _, _, rfl, by go_num, by omega, FIN.out⟩
            case measure => simp [intOf]; omega
          · have FIN := Lib.hid (R9.out.fj (sm := sm) (k := k + 1 + 1) K8.out rfl ROW.out ROOM.out (by have := HMM.out; omega) (SE.out rfl))
            clear hE h6 SE
            go_wp2_with fail
            go_roundw
            case rel => exact ⟨k + 1, _, _, _, _, _, _, _, rfl, by go_num, by omega, FIN.out⟩
            case measure => simp [intOf]; omega
      · skip
        have MAY := Lib.hid (fun W => smay_any yi yt ym ys W)
        have hmay : snapB yi yt ym ys = true := hmay
        rw [hmay] at MAY
        unfold snapV at MAY
        clear hmay
        have u0 : w6.cell? ⟨T, 0, none⟩ = some (.bool true) := R6.out.t.cell 0
        have u1 : w6.cell? ⟨T, 1, none⟩ = some (.int .i64 ya) := R6.out.t.cell 1
        have u2 : w6.cell? ⟨T, 2, none⟩ = some (.int .i64 yb) := R6.out.t.cell 2
        have u3 : w6.cell? ⟨T, 3, none⟩ = some (.int .i64 yi) := R6.out.t.cell 3
        have u4 : w6.cell? ⟨T, 4, none⟩ = some (.int .i64 yt) := R6.out.t.cell 4
        have u5 : w6.cell? ⟨T, 5, none⟩ = some (.int .i64 ym) := R6.out.t.cell 5
        have u6 : w6.cell? ⟨T, 6, none⟩ = some (.string ys) := R6.out.t.cell 6
        go_wp2_with fail
        refine (MAY.out _).mono ?_
        rintro e w7 ⟨rfl, b7⟩
        have R7 := Lib.hid (R6.out.below b7)
        clear b7 R6 MAY u0 u1 u2 u3 u4 u5 u6
        have DN := Lib.hid (downd R7.out.d.dsk)
        rw [dn6] at DN
        have WK := Lib.hid (wakeq R7.out.d OK6.out)
        go_wp2_with fail
        refine DN.out.mono ?_
        rintro e w8 ⟨rfl, rfl⟩
        go_wp2_with fail
        refine WK.out.mono ?_
        rintro e w8 ⟨rfl, d8, k8, b8, s8⟩
        have R8 := Lib.hid (R7.out.next d8 b8 s8)
        have K8 := Lib.hid k8
        clear d8 k8 b8 s8 DN WK R7
        have hA := K8.out.alike ROW.out
        rcases h6 with h6 | h6
        · have LO := Lib.hid (fun W (d : DskQ W w.heap.size D (mm + 40) { S6 with down := false } (fun q => (q = V ∨ q = V + 1) ∨ q = T)) => show Calls Try.prog 25 #[.pointer (some ⟨D, 0, none⟩), .agg #[.int .i64 va, .int .i64 vb], .agg #[.int .i64 xi, .int .i64 xt, .int .i64 xm, .string xs], .bool sm] W (fun e w' => e = .returned (.bool true) ∧ Below W.heap.size W w') from loads_true d.dsk rfl hA h6)
          have FI := Lib.hid (fun W (R : Ro w W w.heap.size D V (V + 1) T (mm + 40) { S6 with down := false } ⟨true, ya, yb, yi, yt, ym, ys⟩ va vb xi xt xm xs) => R.fj (sm := sm) (k := k + 1 + 1) K8.out rfl ROW.out ROOM.out (by have := HMM.out; omega) h6)
          clear hA h6 dn6
          have p0 : w8.cell? ⟨V, 0, none⟩ = some (.int .i64 va) := R8.out.v.cell 0
          have p1 : w8.cell? ⟨V, 1, none⟩ = some (.int .i64 vb) := R8.out.v.cell 1
          have q0 : w8.cell? ⟨V + 1, 0, none⟩ = some (.int .i64 xi) := R8.out.x.cell 0
          have q1 : w8.cell? ⟨V + 1, 1, none⟩ = some (.int .i64 xt) := R8.out.x.cell 1
          have q2 : w8.cell? ⟨V + 1, 2, none⟩ = some (.int .i64 xm) := R8.out.x.cell 2
          have q3 : w8.cell? ⟨V + 1, 3, none⟩ = some (.string xs) := R8.out.x.cell 3
          go_wp2_with fail
          refine (LO.out _ R8.out.d).mono ?_
          rintro e w9 ⟨rfl, b9⟩
          have FIN := Lib.hid (FI.out _ (R8.out.below b9))
          clear b9 p0 p1 q0 q1 q2 q3
          go_wp2_with fail
          go_roundw
          case rel => exact ⟨k + 1, _, _, _, _, _, _, _, rfl, by go_num, by omega, FIN.out⟩
          case measure => simp [intOf]; omega
        · simp only [Sv.newA, Sv.newB, Sv.newI, Sv.newT, Sv.newM, Sv.newS, Sv.newK, if_true] at h6
          have LO0 := Lib.hid (fun W (d : DskQ W w.heap.size D (mm + 40) { S6 with down := false } (fun q => (q = V ∨ q = V + 1) ∨ q = T)) => show Calls Try.prog 25 #[.pointer (some ⟨D, 0, none⟩), .agg #[.int .i64 va, .int .i64 vb], .agg #[.int .i64 xi, .int .i64 xt, .int .i64 xm, .string xs], .bool sm] W (fun e w' => e = .returned (.bool ((va == va && vb == vb) && (true == sm && (yi == xi && (yt == xt && (ym == xm && ys.toList == xs.toList)))))) ∧ Below W.heap.size W w') from loads_any d.dsk rfl hA h6)
          have SE := Lib.hid (fun (e : ((va == va && vb == vb) && (true == sm && (yi == xi && (yt == xt && (ym == xm && ys.toList == xs.toList))))) = true) => says_eq h6 e)
          clear hA dn6
          have p0 : w8.cell? ⟨V, 0, none⟩ = some (.int .i64 va) := R8.out.v.cell 0
          have p1 : w8.cell? ⟨V, 1, none⟩ = some (.int .i64 vb) := R8.out.v.cell 1
          have q0 : w8.cell? ⟨V + 1, 0, none⟩ = some (.int .i64 xi) := R8.out.x.cell 0
          have q1 : w8.cell? ⟨V + 1, 1, none⟩ = some (.int .i64 xt) := R8.out.x.cell 1
          have q2 : w8.cell? ⟨V + 1, 2, none⟩ = some (.int .i64 xm) := R8.out.x.cell 2
          have q3 : w8.cell? ⟨V + 1, 3, none⟩ = some (.string xs) := R8.out.x.cell 3
          go_wp2_with fail
          refine (LO0.out _ R8.out.d).mono ?_
          rintro e w9 ⟨rfl, b9⟩
          have R9 := Lib.hid (R8.out.below b9)
          clear b9 p0 p1 q0 q1 q2 q3 LO0 R8
          generalize hE : ((va == va && vb == vb) && (true == sm && (yi == xi && (yt == xt && (ym == xm && ys.toList == xs.toList))))) = E at *
          cases E
          · clear hE SE
            have hA := (K8.out).alike ROW.out
            have LO := Lib.hid (fun W (d : DskQ W w.heap.size D (mm + 40) { S6 with down := false } (fun q => (q = V ∨ q = V + 1) ∨ q = T)) => show Calls Try.prog 25 #[.pointer (some ⟨D, 0, none⟩), .agg #[.int .i64 va, .int .i64 vb], .agg #[.int .i64 yi, .int .i64 yt, .int .i64 ym, .string ys], .bool true] W (fun e w' => e = .returned (.bool true) ∧ Below W.heap.size W w') from loads_true d.dsk rfl hA h6)
            have FI := Lib.hid (fun W (R : Ro w W w.heap.size D V (V + 1) T (mm + 40) { S6 with down := false } ⟨true, ya, yb, yi, yt, ym, ys⟩ va vb yi yt ym ys) => R.fj (sm := true) (k := k + 1 + 1) (K8.out) rfl ROW.out ROOM.out (by have := HMM.out; omega) h6)
            clear hA
            have u0 : w9.cell? ⟨T, 0, none⟩ = some (.bool true) := R9.out.t.cell 0
            have u1 : w9.cell? ⟨T, 1, none⟩ = some (.int .i64 ya) := R9.out.t.cell 1
            have u2 : w9.cell? ⟨T, 2, none⟩ = some (.int .i64 yb) := R9.out.t.cell 2
            have u3 : w9.cell? ⟨T, 3, none⟩ = some (.int .i64 yi) := R9.out.t.cell 3
            have u4 : w9.cell? ⟨T, 4, none⟩ = some (.int .i64 yt) := R9.out.t.cell 4
            have u5 : w9.cell? ⟨T, 5, none⟩ = some (.int .i64 ym) := R9.out.t.cell 5
            have u6 : w9.cell? ⟨T, 6, none⟩ = some (.string ys) := R9.out.t.cell 6
            have p0 : w9.cell? ⟨V, 0, none⟩ = some (.int .i64 va) := R9.out.v.cell 0
            have p1 : w9.cell? ⟨V, 1, none⟩ = some (.int .i64 vb) := R9.out.v.cell 1
            have q0 : w9.cell? ⟨V + 1, 0, none⟩ = some (.int .i64 xi) := R9.out.x.cell 0
            have q1 : w9.cell? ⟨V + 1, 1, none⟩ = some (.int .i64 xt) := R9.out.x.cell 1
            have q2 : w9.cell? ⟨V + 1, 2, none⟩ = some (.int .i64 xm) := R9.out.x.cell 2
            have q3 : w9.cell? ⟨V + 1, 3, none⟩ = some (.string xs) := R9.out.x.cell 3
            have z0 : w9.frozen? ⟨V + 1, 0, none⟩ = false := R9.out.x.free 0
            have z1 : w9.frozen? ⟨V + 1, 1, none⟩ = false := R9.out.x.free 1
            have z2 : w9.frozen? ⟨V + 1, 2, none⟩ = false := R9.out.x.free 2
            have z3 : w9.frozen? ⟨V + 1, 3, none⟩ = false := R9.out.x.free 3
            have RW := R9.out.setX (by omega) (by have := HT.out; omega) (by have := HVV.out; omega) yi yt ym ys
            unfold set4 at RW
            have RW := Lib.hid RW
            have y0 : ((((w9.setCell ⟨V + 1, 0, none⟩ (.int .i64 yi)).setCell ⟨V + 1, 1, none⟩ (.int .i64 yt)).setCell ⟨V + 1, 2, none⟩ (.int .i64 ym)).setCell ⟨V + 1, 3, none⟩ (.string ys)).cell? ⟨V, 0, none⟩ = some (.int .i64 va) := RW.out.v.cell 0
            have y1 : ((((w9.setCell ⟨V + 1, 0, none⟩ (.int .i64 yi)).setCell ⟨V + 1, 1, none⟩ (.int .i64 yt)).setCell ⟨V + 1, 2, none⟩ (.int .i64 ym)).setCell ⟨V + 1, 3, none⟩ (.string ys)).cell? ⟨V, 1, none⟩ = some (.int .i64 vb) := RW.out.v.cell 1
            have x0 : ((((w9.setCell ⟨V + 1, 0, none⟩ (.int .i64 yi)).setCell ⟨V + 1, 1, none⟩ (.int .i64 yt)).setCell ⟨V + 1, 2, none⟩ (.int .i64 ym)).setCell ⟨V + 1, 3, none⟩ (.string ys)).cell? ⟨V + 1, 0, none⟩ = some (.int .i64 yi) := RW.out.x.cell 0
            have x1 : ((((w9.setCell ⟨V + 1, 0, none⟩ (.int .i64 yi)).setCell ⟨V + 1, 1, none⟩ (.int .i64 yt)).setCell ⟨V + 1, 2, none⟩ (.int .i64 ym)).setCell ⟨V + 1, 3, none⟩ (.string ys)).cell? ⟨V + 1, 1, none⟩ = some (.int .i64 yt) := RW.out.x.cell 1
            have x2 : ((((w9.setCell ⟨V + 1, 0, none⟩ (.int .i64 yi)).setCell ⟨V + 1, 1, none⟩ (.int .i64 yt)).setCell ⟨V + 1, 2, none⟩ (.int .i64 ym)).setCell ⟨V + 1, 3, none⟩ (.string ys)).cell? ⟨V + 1, 2, none⟩ = some (.int .i64 ym) := RW.out.x.cell 2
            have x3 : ((((w9.setCell ⟨V + 1, 0, none⟩ (.int .i64 yi)).setCell ⟨V + 1, 1, none⟩ (.int .i64 yt)).setCell ⟨V + 1, 2, none⟩ (.int .i64 ym)).setCell ⟨V + 1, 3, none⟩ (.string ys)).cell? ⟨V + 1, 3, none⟩ = some (.string ys) := RW.out.x.cell 3
            go_wp2_with fail
            clear u0 u1 u2 u3 u4 u5 u6 p0 p1 q0 q1 q2 q3 z0 z1 z2 z3 y0 y1 x0 x1 x2 x3
            generalize (((w9.setCell ⟨V + 1, 0, none⟩ (.int .i64 yi)).setCell ⟨V + 1, 1, none⟩ (.int .i64 yt)).setCell ⟨V + 1, 2, none⟩ (.int .i64 ym)).setCell ⟨V + 1, 3, none⟩ (.string ys) = wz at *
            refine (LO.out _ RW.out.d).mono ?_
            rintro e wy ⟨rfl, by_⟩
            have FIN := Lib.hid (FI.out _ (RW.out.below by_))
            clear by_
            go_wp2_with fail
            go_roundw
            case rel => exact ⟨k + 1, _, _, _, _, _, _, _, rfl, by go_num, by omega, FIN.out⟩
            case measure => simp [intOf]; omega
          · have FIN := Lib.hid (R9.out.fj (sm := sm) (k := k + 1 + 1) K8.out rfl ROW.out ROOM.out (by have := HMM.out; omega) (SE.out rfl))
            clear hE h6 SE
            go_wp2_with fail
            go_roundw
            case rel => exact ⟨k + 1, _, _, _, _, _, _, _, rfl, by go_num, by omega, FIN.out⟩
            case measure => simp [intOf]; omega
end Go.Proofs.Ythdkflmkcoabaaa
