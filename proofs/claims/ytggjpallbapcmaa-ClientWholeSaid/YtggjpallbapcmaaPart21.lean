/-
  WHAT THE ROWS REST ON, part 21: Btx.
-/
import Derived.Deep.RegionHeld3
import Derived.Deep.DeepCutAuto
import Derived.Shelf.Abstract
import Derived.Shelf.RegionOpen
import Derived.Test.YtggjpallbapcmaaPart20
/-
  The book: Text 19.
-/
namespace Go.Proofs.Ytggjpallbapcmaa.Bk
open Go.RowKit
attribute [local go_sem] Oper.semAt_some
section
variable {A B C : World}
theorem bel_on (h : Below A.heap.size A B) (k : Below B.heap.size B C) : Below A.heap.size A C := h.trans (k.mono h.size)
theorem bel_al (h : Below A.heap.size A B) (o : Obj) : Below A.heap.size A (B.alloc o) := h.alloc h.size o
theorem bel_dr (h : Below A.heap.size A B) : Below A.heap.size A B.drew := h.drew
theorem bel_set (h : Below A.heap.size A B) {X : Nat} (hX : A.heap.size ≤ X) (i : Nat) (u : Value) : Below A.heap.size A (B.setCell ⟨X, i, none⟩ u) := h.setCell (p := ⟨X, i, none⟩) hX u
end
theorem blk_newd (w : World) (t : TypeId) (cs : Array Value) : Blk ((w.alloc (.cells cs t)).drew) w.heap.size t cs := Blk.new w t cs
/-- what behind lays -/
theorem boxes (w1 : World) (t : Nat) (x y : Int) : ∃ w2, w2 = ((w1.alloc (.cells #[.pointer (some ⟨t, 0, none⟩)] 76)).alloc (.cells #[.int .i64 x] 3)).alloc (.cells #[.int .i64 y] 3) ∧
    Blk w2 w1.heap.size 76 #[.pointer (some ⟨t, 0, none⟩)] ∧ Blk w2 (w1.heap.size + 1) 3 #[.int .i64 x] ∧ Blk w2 (w1.heap.size + 2) 3 #[.int .i64 y] ∧ Below w1.heap.size w1 w2 := by
  obtain ⟨w2, hw2⟩ : ∃ w2, w2 = ((w1.alloc (.cells #[.pointer (some ⟨t, 0, none⟩)] 76)).alloc (.cells #[.int .i64 x] 3)).alloc (.cells #[.int .i64 y] 3) := ⟨_, rfl⟩
  have z1 : (w1.alloc (.cells #[.pointer (some ⟨t, 0, none⟩)] 76)).heap.size = w1.heap.size + 1 := by simp
  have z2 : ((w1.alloc (.cells #[.pointer (some ⟨t, 0, none⟩)] 76)).alloc (.cells #[.int .i64 x] 3)).heap.size = w1.heap.size + 2 := by simp
  have kt1 := Blk.new w1 76 #[.pointer (some ⟨t, 0, none⟩)]
  have kf1 := Blk.new (w1.alloc (.cells #[.pointer (some ⟨t, 0, none⟩)] 76)) 3 #[.int .i64 x]
  have km1 := Blk.new ((w1.alloc (.cells #[.pointer (some ⟨t, 0, none⟩)] 76)).alloc (.cells #[.int .i64 x] 3)) 3 #[.int .i64 y]
  have bA := (Below.refl w1.heap.size w1).alloc (Nat.le_refl _) (.cells #[.pointer (some ⟨t, 0, none⟩)] 76)
  have bB := (Below.refl (w1.heap.size + 1) (w1.alloc (.cells #[.pointer (some ⟨t, 0, none⟩)] 76))).alloc (by simp) (.cells #[.int .i64 x] 3)
  have bC := (Below.refl (w1.heap.size + 2) ((w1.alloc (.cells #[.pointer (some ⟨t, 0, none⟩)] 76)).alloc (.cells #[.int .i64 x] 3))).alloc (by simp) (.cells #[.int .i64 y] 3)
  rw [z1] at kf1
  rw [z2] at km1
  rw [← hw2] at km1 bC
  exact ⟨w2, hw2, (kt1.below bB (by omega)).below bC (by omega), kf1.below bC (by omega), km1, (bA.trans (bB.mono (by omega))).trans (bC.mono (by omega))⟩
/-- the loop's state -/
structure TxI (w : World) (X Wl : Nat) (H : ByteArray) (pre : List Mv) (W : World) : Prop where
  box : Blk W X 9 #[.string (H ++ bodS (pre.map (fun x : Mv => x.2)))]
  b : Below w.heap.size w W
  n : Wl ≤ W.heap.size
theorem TxI.turn {w A B : World} {X Wl : Nat} {H : ByteArray} {pre : List Mv} (h : TxI w X Wl H pre A) (hw : w.heap.size ≤ Wl) (hn : NC A (Wl + 1)) (f : Fr A B (fun q => q = Wl + 1)) : TxI w X Wl H pre B :=
  ⟨h.box.fr f (h.box.nc hn), h.b.trans (f.below (fun q e => by omega) h.b.size), Nat.le_trans h.n f.size⟩
theorem sub_all {base : Int} {LL : List (List Int)} (h : LL.length ≤ 64) : sub base LL base 64 = LL := by
  unfold sub
  rw [Int.sub_self]
  show (LL.drop 0).take 64 = LL
  rw [List.drop_zero, List.take_of_length_le h]
set_option maxHeartbeats 16000000 in
set_option maxRecDepth 100000 in
theorem text_any {w W0 : World} {Bk : Nat → Prop} {t : Nat} {base : Int} {LL : List (List Int)} (hBK : BookAt W0 Bk t base LL) (ok : BOk base LL) (sh : Shr LL) (hw : W0 = w) : Calls Try.prog 29 #[.pointer (some ⟨t, 0, none⟩)] w fun e w' => e = .returned (.string (txtS base LL)) ∧ Below w.heap.size w w' := by
  have o0 := ok.b0
  have o1 := ok.b1
  have o2 := ok.n
  have N1 := Lib.hid (fun W => Bt.num_any base (by omega) (by omega) W)
  have N2 := Lib.hid (fun W => Bt.num_any (LL.length : Int) (by omega) (by omega) W)
  have z1 := Bt.numS_size base
  have z2 := Bt.numS_size (LL.length : Int)
  have HT : Hid (txtS base LL = Bt.numS base ++ Bt.numS (LL.length : Int) ++ bodS LL) := Lib.hid rfl
  obtain ⟨T1, hT1⟩ : ∃ T1, T1 = Bt.numS base := ⟨_, rfl⟩
  obtain ⟨T2, hT2⟩ : ∃ T2, T2 = Bt.numS (LL.length : Int) := ⟨_, rfl⟩
  rw [← hT1] at N1 z1 HT
  rw [← hT2] at N2 z2 HT
  clear hT1 hT2
  have u1 : IntKind.u64.wrap base = base := IntWalk.u64_in _ (by omega)
  have u2 : IntKind.u64.wrap (LL.length : Int) = (LL.length : Int) := IntWalk.u64_in _ (by omega)
  subst hw
  have HBK := Lib.hid hBK
  refine (callsIn_wide (n := 6)).1 ?_
  refine callsIn_of_wp_marks Try.func29 rfl trivial ?_ rfl
  simp only [Try.ntmps29, List.size_toArray, List.length_cons, List.length_nil, Nat.reduceAdd, Nat.reduceSub, Array.replicate_succ, Array.replicate_zero, List.push_toArray, List.append_toArray, List.nil_append, List.cons_append]
  refine wpIn_wide.2 ?_
  go_upto_region 3 with fail
  obtain ⟨v0, cs0, k0, r0, e0, -, -, hlt0⟩ := hBK
  have hcl0 := e0.1
  obtain ⟨va, vc, rfl, -, -⟩ := r0.form
  rw [hcl0] at k0
  have K0 := Lib.hid k0
  have HLT := Lib.hid hlt0
  have htW : t < W0.heap.size := k0.lt
  clear k0 r0 e0 hlt0 hcl0
  have q1 : ¬ (9223372036854775807 < T1.size + T2.size) := by omega
  have SOF : Hid (∀ w', Below W0.heap.size W0 w' → w'.cell? ⟨t, 0, none⟩ = some (.int .i64 base) ∧ w'.cell? ⟨t, 1, none⟩ = some (.slice va LL.length vc) ∧ Below W0.heap.size W0 w') := Lib.hid fun w' b => ⟨(K0.out.next b).cell 0, (K0.out.next b).cell 1, b⟩
  have S1 := SOF.out _ (bel_dr (Below.refl W0.heap.size W0))
  have hl64 : (LL.length : Int) ≤ 64 := by omega
  have c0 : W0.cell? ⟨t, 0, none⟩ = some (.int .i64 base) := K0.out.cell 0
  obtain ⟨nn, hnn⟩ : ∃ nn, nn = LL.length := ⟨_, rfl⟩
  rw [← hnn] at SOF N2 u2 K0 S1 hl64
  have HNN := Lib.hid hnn
  clear hnn
  go_cut [3] from 4 (fun s3 wx => ∃ X, s3 = .pointer (some ⟨X, 0, none⟩) ∧ Blk wx X 9 #[.string (T1 ++ T2)] ∧ W0.heap.size ≤ X ∧ Hid (Below W0.heap.size W0 wx))
  case first =>
    go_region_held3 (fun w' => w'.cell? ⟨t, 0, none⟩ = some (.int .i64 base) ∧ w'.cell? ⟨t, 1, none⟩ = some (.slice va nn vc) ∧ Below W0.heap.size W0 w')
      (first | (with_reducible exact S1) | (refine SOF.out _ ?_; (repeat (with_reducible first | assumption | exact Below.refl _ _ | refine bel_dr ?_ | refine bel_al ?_ _ | refine bel_set ?_ ?_ _ _)); all_goals (first | done | exact Nat.le_refl _ | exact f1.size | exact f2.size); done))
      (first
        | (go_at_call 57; (with_reducible refine (N1.out _).mono ?_); rintro r w1 ⟨rfl, b1⟩; have f1 : Below W0.heap.size W0 w1 := bel_on (by (repeat (with_reducible first | assumption | exact Below.refl _ _ | refine bel_dr ?_ | refine bel_al ?_ _))) b1; (first | (have kx1 := Blk.next kx2 b1; have za1 := kx1.cell 0; have zf1 := kx1.free 0) | (have kx1 := Blk.next (Blk.new _ 9 #[.string ⟨#[]⟩]) b1; have za1 := kx1.cell 0; have zf1 := kx1.free 0) | (have kx1 := Blk.next (blk_newd _ 9 #[.string ⟨#[]⟩]) b1; have za1 := kx1.cell 0; have zf1 := kx1.free 0) | skip))
        | (go_at_call 57; (with_reducible refine (N2.out _).mono ?_); rintro r w2 ⟨rfl, b2⟩; have f2 : Below W0.heap.size W0 w2 := bel_on (by (repeat (with_reducible first | assumption | exact Below.refl _ _ | refine bel_dr ?_ | refine bel_al ?_ _))) b2; (first | (have kx2 := Blk.next kx1 b2; have za2 := kx2.cell 0; have zf2 := kx2.free 0) | (have kx2 := Blk.next (Blk.new _ 9 #[.string ⟨#[]⟩]) b2; have za2 := kx2.cell 0; have zf2 := kx2.free 0) | (have kx2 := Blk.next (blk_newd _ 9 #[.string ⟨#[]⟩]) b2; have za2 := kx2.cell 0; have zf2 := kx2.free 0) | skip)))
    all_goals
      go_wp2_with fail
      go_meet
      first
        | exact ⟨_, rfl, Blk.new _ _ _, f2.size, Lib.hid (bel_al f2 _)⟩
        | exact ⟨_, rfl, Blk.new _ _ _, f1.size, Lib.hid (bel_al f1 _)⟩
        | exact ⟨_, rfl, kx2.set 0 _, Nat.le_refl _, Lib.hid (bel_set f2 (Nat.le_refl _) _ _)⟩
        | exact ⟨_, rfl, kx2.set 0 _, f1.size, Lib.hid (bel_set f2 f1.size _ _)⟩
        | exact ⟨_, rfl, kx1.set 0 _, Nat.le_refl _, Lib.hid (bel_set f1 (Nat.le_refl _) _ _)⟩
        | exact ⟨_, rfl, kx1.set 0 _, f2.size, Lib.hid (bel_set f1 f2.size _ _)⟩
  case rest =>
    obtain ⟨X, rfl, kX, hX, hBc⟩ := hcut
    obtain ⟨w2, hw2, kt2, kf2, km2, b2⟩ := boxes wc t base 64
    have hBK2 := (HBK.out.next hBc.out).next b2
    have HY := Lib.hid (yields (Fb := fun q => q = X) 5 (by decide) hBK2 ok sh.short (Int.le_refl _) (by omega) (by decide) kt2 kf2 km2 (fun q hq e => by have := HLT.out q hq; omega))
    rw [sub_all o2] at HY
    have kX2 := kX.next b2
    have hXl : X < w2.heap.size := kX2.lt
    have bW2 := bel_on hBc.out b2
    have HI0 : Hid (TxI W0 X w2.heap.size (T1 ++ T2) [] w2) := Lib.hid ⟨by rw [List.map_nil]; show Blk w2 X 9 #[.string (T1 ++ T2 ++ ⟨#[]⟩)]; rw [ba_nil]; exact kX2, bW2, Nat.le_refl _⟩
    have hwl : W0.heap.size ≤ w2.heap.size := bW2.size
    have HW2 := Lib.hid hw2
    have HSH := Lib.hid sh
    have hT12 : (T1 ++ T2).size ≤ 18 := by rw [ba_size]; omega
    clear hBK2 kX2 hw2 kt2 kf2 km2 b2 bW2 HBK sh HLT N2
    have c0c : wc.cell? ⟨t, 0, none⟩ = some (.int .i64 base) := (K0.out.next hBc.out).cell 0
    clear kX S1 SOF N1 u2 c0 q1 hBc K0 u1 z1 z2
    go_wp2_with fail
    refine ((callsIn_wide (n := 3)).1 (behind_any t base 64)).mono ?_
    rintro e w' ⟨rfl, rfl⟩
    rw [← HW2.out]
    clear HW2 c0c
    go_wp2_with fail
    refine (wpIn_wide (n := 6)).1 ?_
    refine range_law (m := 6) (by decide) rfl (Go.Proofs.enters_of Try.func81 (by kernel_rfl) rfl) HY.out rfl (TxI W0 X w2.heap.size (T1 ++ T2)) (fun s A B i nc f => i.turn hwl nc f) HI0.out ?round ?done
    case round =>
      intro l pre x W hI hx hG hlt hnc
      obtain ⟨u, xs⟩ := x
      simp only at hx
      have hmay : mayB xs = true := HSH.out xs (hG.subset (by simp))
      have hpl : (pre.map (fun x : Mv => x.2)).length ≤ 64 := by
        have := hG.length_le
        simp at this ⊢
        omega
      have hps : ∀ y ∈ pre.map (fun x : Mv => x.2), y.length ≤ 16 := fun y hy => (mayB_len (HSH.out y (hG.subset (by rw [List.map_append]; exact List.mem_append_left _ hy)))).2
      obtain ⟨S, hS⟩ : ∃ S, S = T1 ++ T2 ++ bodS (pre.map (fun x : Mv => x.2)) := ⟨_, rfl⟩
      have hSs : S.size ≤ 10000 := by
        have := bodS_size hps
        rw [hS, ba_size]; omega
      have NXT : Hid (T1 ++ T2 ++ bodS ((pre ++ [(u, xs)]).map (fun x : Mv => x.2)) = S ++ mtS xs) := Lib.hid (by
        rw [List.map_append, bodS_app, ← ba_assoc, ← hS]
        congr 1
        exact bodS_one xs)
      have hxl := mayB_len hmay
      have hxa := mayB_all hmay
      obtain ⟨au, cu, rfl, nu⟩ := hx.nums
      have HI := Lib.hid hI
      have KX1 := hI.box
      rw [← hS] at KX1
      have hXW : X < W.heap.size := KX1.lt
      obtain ⟨W1, hW1⟩ : ∃ W1, W1 = W.alloc (.cells #[.slice au xs.length cu] 70) := ⟨_, rfl⟩
      have bA : Below W.heap.size W W1 := by rw [hW1]; exact (Below.refl _ W).alloc (Nat.le_refl _) _
      have K9 := Lib.hid (show Blk W1 W.heap.size 70 #[.slice au xs.length cu] by rw [hW1]; exact Blk.new _ _ _)
      have KXA := Lib.hid (KX1.next bA)
      have NUA := Lib.hid (nu.next bA)
      have HXA := Lib.hid (hx.fr (Fr.of_below bA (fun _ => False)) (fun _ _ h => h))
      have KK := Lib.hid (show KeepsOthers W W1 by rw [hW1]; exact KeepsOthers.alloc _ _)
      have BA := Lib.hid bA
      have HW1 := Lib.hid hW1
      have HXAL := Lib.hid hxa
      clear hW1 bA KX1 nu hx hI hxa HY HI0 hps hS hG hmay
      dsimp only [encM]
      gi_wp2
      rw [← HW1.out]
      refine ⟨KK.out, ?_⟩
      intro W2 f2 n1 n2
      have kX2 := KXA.out.fr f2 (KXA.out.nc n1)
      have k92 := K9.out.fr f2 (K9.out.nc n1)
      have F2 := Lib.hid (((Fr.of_below BA.out (fun q => q = X ∨ w2.heap.size ≤ q))).on (f2.mono (fun q _ h => .inr (by omega))))
      have hx2 := HXA.out.fr f2 (own_nc HXA.out n1)
      obtain ⟨a2, c2, e2, nu2⟩ := hx2.nums
      simp only [Value.slice.injEq, true_and] at e2
      obtain ⟨rfl, rfl⟩ := e2
      have HX2 := Lib.hid hx2
      have hY2 : W.heap.size < W2.heap.size := k92.lt
      have KX2 := Lib.hid kX2
      have K92 := Lib.hid k92
      have hX2 : W2.cell? ⟨X, 0, none⟩ = some (.string S) := kX2.cell 0
      have fX2 : W2.frozen? ⟨X, 0, none⟩ = false := kX2.free 0
      have h92 : W2.cell? ⟨W.heap.size, 0, none⟩ = some (.slice au xs.length cu) := k92.cell 0
      have NL := Lib.hid (fun V => Bt.num_any (xs.length : Int) (by omega) (by omega) V)
      have zL := Bt.numS_size (xs.length : Int)
      have MT : Hid (mtS xs = Bt.numS (xs.length : Int) ++ pkS xs) := Lib.hid rfl
      obtain ⟨TL, hTL⟩ : ∃ TL, TL = Bt.numS (xs.length : Int) := ⟨_, rfl⟩
      rw [← hTL] at NL zL MT
      clear hTL kX2 k92 f2 n1 n2 nu2 hx2 KXA K9 NUA HXA KK BA
      have uL : IntKind.u64.wrap (xs.length : Int) = (xs.length : Int) := IntWalk.u64_in _ (by omega)
      have q1 : ¬ (9223372036854775807 < S.size + TL.size) := by omega
      gi_wp2
      have hmx : Try.prog.follows .mixedOrders = true := mixedE
      gi_region_with_o (refine ⟨trivial, ?_⟩; gi_at_call 57; refine (CallsIn.inRound l (callsIn_wide.2 (NL.out _))).mono ?_; rintro e w3 ⟨rfl, b3⟩; have kX3 := Blk.next (w := W2.drew) KX2.out b3; have k93 := Blk.next (w := W2.drew) K92.out b3; have hX3 : w3.cell? ⟨X, 0, none⟩ = some (.string S) := kX3.cell 0; have fX3 : w3.frozen? ⟨X, 0, none⟩ = false := kX3.free 0; have h93 : w3.cell? ⟨W.heap.size, 0, none⟩ = some (.slice au xs.length cu) := k93.cell 0; have B3 := Lib.hid (bel_on (bel_dr (Below.refl W2.heap.size W2)) b3); have K3 := Lib.hid kX3; have K93 := Lib.hid k93; clear b3 kX3 k93)
      all_goals
        have KS3 := Lib.hid (K3.out.set 0 (.string (S ++ TL)))
        have OX3 := Lib.hid ((HX2.out.fr (Fr.of_below B3.out (fun _ => False)) (fun _ _ h => h)).fr (fr_set w3 X 0 (.string (S ++ TL))) (fun q hq e => by have := (own_ty HX2.out q hq).1; omega))
        have FS3 : Hid (Fr W (w3.setCell ⟨X, 0, none⟩ (.string (S ++ TL))) (fun q => q = X ∨ w2.heap.size ≤ q)) := Lib.hid (F2.out.on ((Fr.of_below B3.out (fun q => q = X ∨ w2.heap.size ≤ q)).set X 0 _ (.inl (.inl rfl))))
        have KO3 : Hid (KeepsOthers W2 (w3.setCell ⟨X, 0, none⟩ (.string (S ++ TL)))) := Lib.hid ((keeps_below B3.out).trans (KeepsOthers.setCell _ _ _))
        have K9S := Lib.hid (K93.out.fr (fr_set w3 X 0 (.string (S ++ TL))) (by omega))
        clear hX3 fX3 h93 B3 K3 K93 hX2 fX2 h92 KX2 K92 HX2 F2 q1 NL
        generalize w3.setCell ⟨X, 0, none⟩ (.string (S ++ TL)) = w4 at *
        have h94 : w4.cell? ⟨W.heap.size, 0, none⟩ = some (.slice au xs.length cu) := K9S.out.cell 0
        gi_wp2
        clear h94
        gi_loopw [41, 6] (fun i pv wr => ∃ (j : Nat) (SS : ByteArray), i = .int .i64 j ∧ j ≤ xs.length ∧ Hid (SS = S ++ TL ++ pkS (xs.take j)) ∧ Hid (Blk wr X 9 #[.string SS]) ∧ Hid (Fr W wr (fun q => q = X ∨ w2.heap.size ≤ q)) ∧ Hid (KeepsOthers W2 wr) ∧ Hid (OwnN wr w2.heap.size (.slice au xs.length cu) xs)) (fun i _ _ => xs.length - (intOf i).toNat)
        case atStart => exact ⟨0, S ++ TL, rfl, Nat.zero_le _, Lib.hid (ba_nil (S ++ TL)).symm, KS3, FS3, KO3, OX3⟩
        case round =>
          obtain ⟨j, SS, rfl, hj, hSS, hK, hF, hO, hX⟩ := hrel
          clear KS3 FS3 KO3 OX3 K9S
          by_cases hjn : j < xs.length
          · have hjI : (j : Int) < (xs.length : Int) := by omega
            obtain ⟨a5, c5, e5, nn⟩ := hX.out.nums
            simp only [Value.slice.injEq, true_and] at e5
            obtain ⟨rfl, rfl⟩ := e5
            obtain ⟨gp, op, e6, hgp, cp⟩ := nn j hjn
            subst e6
            have hy := HXAL.out xs[j] (List.getElem_mem hjn)
            have NJ := Lib.hid (fun V => Bt.num_any xs[j] (by omega) (by omega) V)
            have zJ := Bt.numS_size xs[j]
            have PK := Lib.hid (pkS_take hjn)
            have hsz : SS.size ≤ 20000 := by
              have := pkS_size (xs.take j)
              rw [List.length_take] at this
              rw [hSS.out, ba_size, ba_size]; omega
            obtain ⟨TJ, hTJ⟩ : ∃ TJ, TJ = Bt.numS xs[j] := ⟨_, rfl⟩
            rw [← hTJ] at NJ zJ PK
            clear hTJ
            have NS : Hid (SS ++ TJ = S ++ TL ++ pkS (xs.take (j + 1))) := Lib.hid (by rw [PK.out, hSS.out, ba_assoc (S ++ TL)])
            have uJ : IntKind.u64.wrap xs[j] = xs[j] := IntWalk.u64_in _ (by omega)
            have q2 : ¬ (9223372036854775807 < SS.size + TJ.size) := by omega
            have hXr : wr.cell? ⟨X, 0, none⟩ = some (.string SS) := hK.out.cell 0
            have fXr : wr.frozen? ⟨X, 0, none⟩ = false := hK.out.free 0
            generalize xs[j] = y at *
            clear nn PK hSS
            gi_wp2
            gi_region_with_o (refine ⟨trivial, ?_⟩; gi_at_call 57; refine (CallsIn.inRound l (callsIn_wide.2 (NJ.out _))).mono ?_; rintro e w5 ⟨rfl, b5⟩; have kX5 := Blk.next (w := wr.drew) hK.out b5; have hX5 : w5.cell? ⟨X, 0, none⟩ = some (.string SS) := kX5.cell 0; have fX5 : w5.frozen? ⟨X, 0, none⟩ = false := kX5.free 0; have B5 := Lib.hid (bel_on (bel_dr (Below.refl wr.heap.size wr)) b5); have K5 := Lib.hid kX5; clear b5 kX5)
            all_goals
              have hWr : w2.heap.size ≤ wr.heap.size := Nat.le_trans (Nat.le_trans HI.out.n hF.out.size) (Nat.le_refl _)
              have KS6 := Lib.hid (K5.out.set 0 (.string (SS ++ TJ)))
              have OX6 := Lib.hid ((hX.out.fr (Fr.of_below B5.out (fun _ => False)) (fun _ _ h => h)).fr (fr_set w5 X 0 (.string (SS ++ TJ))) (fun q hq e => by have := (own_ty hX.out q hq).1; omega))
              have FS6 : Hid (Fr W (w5.setCell ⟨X, 0, none⟩ (.string (SS ++ TJ))) (fun q => q = X ∨ w2.heap.size ≤ q)) := Lib.hid (hF.out.on ((Fr.of_below B5.out (fun q => q = X ∨ w2.heap.size ≤ q)).set X 0 _ (.inl (.inl rfl))))
              have KO6 : Hid (KeepsOthers W2 (w5.setCell ⟨X, 0, none⟩ (.string (SS ++ TJ)))) := Lib.hid ((hO.out.trans (keeps_below B5.out)).trans (KeepsOthers.setCell _ _ _))
              clear hX5 fX5 B5 K5 hXr fXr hK hX hF hO cp
              generalize w5.setCell ⟨X, 0, none⟩ (.string (SS ++ TJ)) = w6 at *
              gi_wp2
              go_roundw
              case rel => exact ⟨j + 1, SS ++ TJ, by go_num, by omega, NS, KS6, FS6, KO6, OX6⟩
              case measure => simp [intOf]; omega
          · obtain rfl : j = xs.length := by omega
            have hjI : ¬ (xs.length : Int) < (xs.length : Int) := by omega
            have EQ : SS = T1 ++ T2 ++ bodS ((pre ++ [(Value.slice au xs.length cu, xs)]).map (fun x : Mv => x.2)) := by
              rw [NXT.out, MT.out, hSS.out, List.take_of_length_le (Nat.le_refl _), ba_assoc]
            have K7 := hK.out
            rw [EQ] at K7
            have B7 := HI.out.b.trans (hF.out.below (B := W0.heap.size) (fun q h => by rcases h with rfl | h <;> omega) HI.out.b.size)
            have FIN : Hid (KeepsOthers W2 wr ∧ Fr W wr (fun q => q = X ∨ w2.heap.size ≤ q) ∧ TxI W0 X w2.heap.size (T1 ++ T2) (pre ++ [(Value.slice au xs.length cu, xs)]) wr) := Lib.hid ⟨hO.out, hF.out, K7, B7, Nat.le_trans HI.out.n hF.out.size⟩
            clear K7 B7 EQ hSS hK hF hO hX
            gi_wp2
            exact FIN.out
    case done =>
      intro ms W hS hI hD
      have kX3 := hI.box
      rw [hS, ← HT.out] at kX3
      have hz : W.cell? ⟨X, 0, none⟩ = some (.string (txtS base LL)) := kX3.cell 0
      have HD := Lib.hid hD
      have HB := Lib.hid (hI.b.trans ((fr_putObj W w2.heap.size (.deferred none)).below (B := W0.heap.size) (fun q e => by omega) hI.b.size))
      clear hD hI hS kX3 HY HI0 HSH HNN HT
      obtain ⟨E, hE⟩ : ∃ E, E = txtS base LL := ⟨_, rfl⟩
      rw [← hE] at hz
      have HE := Lib.hid hE
      clear hE
      go_wp2_with fail
      refine ⟨by simp, .inl ⟨_, _, rfl, run_takeDeferred HD.out, ?_⟩⟩
      refine ⟨_, (by simp [results, Try.results29, go_sem]; try rfl), ?_⟩
      exact ⟨by rw [HE.out], HB.out⟩
set_option maxHeartbeats 16000000 in
set_option maxRecDepth 100000 in
theorem text_nil (w : World) : Calls Try.prog 29 #[.pointer none] w fun e w' => e = .returned (.string (txtS 0 [])) ∧ Below w.heap.size w w' := by
  have NEW := Lib.hid (new_any w)
  have ok : BOk 0 [] := ⟨by decide, by decide, by decide⟩
  have sh : Shr [] := fun _ h => by simp at h
  obtain ⟨base, hbase⟩ : ∃ b : Int, b = 0 := ⟨_, rfl⟩
  obtain ⟨LL, hLL⟩ : ∃ l : List (List Int), l = [] := ⟨_, rfl⟩
  rw [← hbase, ← hLL] at ok ⊢
  rw [← hbase, ← hLL] at NEW
  rw [← hLL] at sh
  clear hbase hLL
  have o0 := ok.b0
  have o1 := ok.b1
  have o2 := ok.n
  have N1 := Lib.hid (fun W => Bt.num_any base (by omega) (by omega) W)
  have N2 := Lib.hid (fun W => Bt.num_any (LL.length : Int) (by omega) (by omega) W)
  have z1 := Bt.numS_size base
  have z2 := Bt.numS_size (LL.length : Int)
  have HT : Hid (txtS base LL = Bt.numS base ++ Bt.numS (LL.length : Int) ++ bodS LL) := Lib.hid rfl
  obtain ⟨T1, hT1⟩ : ∃ T1, T1 = Bt.numS base := ⟨_, rfl⟩
  obtain ⟨T2, hT2⟩ : ∃ T2, T2 = Bt.numS (LL.length : Int) := ⟨_, rfl⟩
  rw [← hT1] at N1 z1 HT
  rw [← hT2] at N2 z2 HT
  clear hT1 hT2
  have u1 : IntKind.u64.wrap base = base := IntWalk.u64_in _ (by omega)
  have u2 : IntKind.u64.wrap (LL.length : Int) = (LL.length : Int) := IntWalk.u64_in _ (by omega)
  generalize hqt : (fun q => q = w.heap.size) = Bk at NEW
  clear hqt
  obtain ⟨t, ht⟩ : ∃ t, t = w.heap.size := ⟨_, rfl⟩
  rw [← ht] at NEW
  have HTW := Lib.hid ht
  clear ht
  refine (callsIn_wide (n := 6)).1 ?_
  refine callsIn_of_wp_marks Try.func29 rfl trivial ?_ rfl
  simp only [Try.ntmps29, List.size_toArray, List.length_cons, List.length_nil, Nat.reduceAdd, Nat.reduceSub, Array.replicate_succ, Array.replicate_zero, List.push_toArray, List.append_toArray, List.nil_append, List.cons_append]
  refine wpIn_wide.2 ?_
  go_upto_region 3 with (go_at_call 28; refine NEW.out.mono ?_; rintro e W0 ⟨rfl, hBK, bb⟩; have HBK := Lib.hid hBK; have BB : Hid (Below w.heap.size w W0) := Lib.hid (by rw [← HTW.out]; exact bb); clear bb)
  obtain ⟨v0, cs0, k0, r0, e0, -, -, hlt0⟩ := hBK
  have hcl0 := e0.1
  obtain ⟨va, vc, rfl, -, -⟩ := r0.form
  rw [hcl0] at k0
  have K0 := Lib.hid k0
  have HLT := Lib.hid hlt0
  have htW : t < W0.heap.size := k0.lt
  clear k0 r0 e0 hlt0 hcl0
  have q1 : ¬ (9223372036854775807 < T1.size + T2.size) := by omega
  have SOF : Hid (∀ w', Below W0.heap.size W0 w' → w'.cell? ⟨t, 0, none⟩ = some (.int .i64 base) ∧ w'.cell? ⟨t, 1, none⟩ = some (.slice va LL.length vc) ∧ Below W0.heap.size W0 w') := Lib.hid fun w' b => ⟨(K0.out.next b).cell 0, (K0.out.next b).cell 1, b⟩
  have S1 := SOF.out _ (bel_dr (Below.refl W0.heap.size W0))
  have hl64 : (LL.length : Int) ≤ 64 := by omega
  have c0 : W0.cell? ⟨t, 0, none⟩ = some (.int .i64 base) := K0.out.cell 0
  obtain ⟨nn, hnn⟩ : ∃ nn, nn = LL.length := ⟨_, rfl⟩
  rw [← hnn] at SOF N2 u2 K0 S1 hl64
  have HNN := Lib.hid hnn
  clear hnn
  go_cut [3] from 4 (fun s3 wx => ∃ X, s3 = .pointer (some ⟨X, 0, none⟩) ∧ Blk wx X 9 #[.string (T1 ++ T2)] ∧ W0.heap.size ≤ X ∧ Hid (Below W0.heap.size W0 wx))
  case first =>
    go_region_held3 (fun w' => w'.cell? ⟨t, 0, none⟩ = some (.int .i64 base) ∧ w'.cell? ⟨t, 1, none⟩ = some (.slice va nn vc) ∧ Below W0.heap.size W0 w')
      (first | (with_reducible exact S1) | (refine SOF.out _ ?_; (repeat (with_reducible first | assumption | exact Below.refl _ _ | refine bel_dr ?_ | refine bel_al ?_ _ | refine bel_set ?_ ?_ _ _)); all_goals (first | done | exact Nat.le_refl _ | exact f1.size | exact f2.size); done))
      (first
        | (go_at_call 57; (with_reducible refine (N1.out _).mono ?_); rintro r w1 ⟨rfl, b1⟩; have f1 : Below W0.heap.size W0 w1 := bel_on (by (repeat (with_reducible first | assumption | exact Below.refl _ _ | refine bel_dr ?_ | refine bel_al ?_ _))) b1; (first | (have kx1 := Blk.next kx2 b1; have za1 := kx1.cell 0; have zf1 := kx1.free 0) | (have kx1 := Blk.next (Blk.new _ 9 #[.string ⟨#[]⟩]) b1; have za1 := kx1.cell 0; have zf1 := kx1.free 0) | (have kx1 := Blk.next (blk_newd _ 9 #[.string ⟨#[]⟩]) b1; have za1 := kx1.cell 0; have zf1 := kx1.free 0) | skip))
        | (go_at_call 57; (with_reducible refine (N2.out _).mono ?_); rintro r w2 ⟨rfl, b2⟩; have f2 : Below W0.heap.size W0 w2 := bel_on (by (repeat (with_reducible first | assumption | exact Below.refl _ _ | refine bel_dr ?_ | refine bel_al ?_ _))) b2; (first | (have kx2 := Blk.next kx1 b2; have za2 := kx2.cell 0; have zf2 := kx2.free 0) | (have kx2 := Blk.next (Blk.new _ 9 #[.string ⟨#[]⟩]) b2; have za2 := kx2.cell 0; have zf2 := kx2.free 0) | (have kx2 := Blk.next (blk_newd _ 9 #[.string ⟨#[]⟩]) b2; have za2 := kx2.cell 0; have zf2 := kx2.free 0) | skip)))
    all_goals
      go_wp2_with fail
      go_meet
      first
        | exact ⟨_, rfl, Blk.new _ _ _, f2.size, Lib.hid (bel_al f2 _)⟩
        | exact ⟨_, rfl, Blk.new _ _ _, f1.size, Lib.hid (bel_al f1 _)⟩
        | exact ⟨_, rfl, kx2.set 0 _, Nat.le_refl _, Lib.hid (bel_set f2 (Nat.le_refl _) _ _)⟩
        | exact ⟨_, rfl, kx2.set 0 _, f1.size, Lib.hid (bel_set f2 f1.size _ _)⟩
        | exact ⟨_, rfl, kx1.set 0 _, Nat.le_refl _, Lib.hid (bel_set f1 (Nat.le_refl _) _ _)⟩
        | exact ⟨_, rfl, kx1.set 0 _, f2.size, Lib.hid (bel_set f1 f2.size _ _)⟩
  case rest =>
    obtain ⟨X, rfl, kX, hX, hBc⟩ := hcut
    obtain ⟨w2, hw2, kt2, kf2, km2, b2⟩ := boxes wc t base 64
    have hBK2 := (HBK.out.next hBc.out).next b2
    have HY := Lib.hid (yields (Fb := fun q => q = X) 5 (by decide) hBK2 ok sh.short (Int.le_refl _) (by omega) (by decide) kt2 kf2 km2 (fun q hq e => by have := HLT.out q hq; omega))
    rw [sub_all o2] at HY
    have kX2 := kX.next b2
    have hXl : X < w2.heap.size := kX2.lt
    have bW2 := bel_on hBc.out b2
    have HI0 : Hid (TxI W0 X w2.heap.size (T1 ++ T2) [] w2) := Lib.hid ⟨by rw [List.map_nil]; show Blk w2 X 9 #[.string (T1 ++ T2 ++ ⟨#[]⟩)]; rw [ba_nil]; exact kX2, bW2, Nat.le_refl _⟩
    have hwl : W0.heap.size ≤ w2.heap.size := bW2.size
    have HW2 := Lib.hid hw2
    have HSH := Lib.hid sh
    have hT12 : (T1 ++ T2).size ≤ 18 := by rw [ba_size]; omega
    clear hBK2 kX2 hw2 kt2 kf2 km2 b2 bW2 HBK sh HLT N2
    have c0c : wc.cell? ⟨t, 0, none⟩ = some (.int .i64 base) := (K0.out.next hBc.out).cell 0
    clear kX S1 SOF N1 u2 c0 q1 hBc K0 u1 z1 z2
    go_wp2_with fail
    refine ((callsIn_wide (n := 3)).1 (behind_any t base 64)).mono ?_
    rintro e w' ⟨rfl, rfl⟩
    rw [← HW2.out]
    clear HW2 c0c
    go_wp2_with fail
    refine (wpIn_wide (n := 6)).1 ?_
    refine range_law (m := 6) (by decide) rfl (Go.Proofs.enters_of Try.func81 (by kernel_rfl) rfl) HY.out rfl (TxI W0 X w2.heap.size (T1 ++ T2)) (fun s A B i nc f => i.turn hwl nc f) HI0.out ?round ?done
    case round =>
      intro l pre x W hI hx hG hlt hnc
      obtain ⟨u, xs⟩ := x
      simp only at hx
      have hmay : mayB xs = true := HSH.out xs (hG.subset (by simp))
      have hpl : (pre.map (fun x : Mv => x.2)).length ≤ 64 := by
        have := hG.length_le
        simp at this ⊢
        omega
      have hps : ∀ y ∈ pre.map (fun x : Mv => x.2), y.length ≤ 16 := fun y hy => (mayB_len (HSH.out y (hG.subset (by rw [List.map_append]; exact List.mem_append_left _ hy)))).2
      obtain ⟨S, hS⟩ : ∃ S, S = T1 ++ T2 ++ bodS (pre.map (fun x : Mv => x.2)) := ⟨_, rfl⟩
      have hSs : S.size ≤ 10000 := by
        have := bodS_size hps
        rw [hS, ba_size]; omega
      have NXT : Hid (T1 ++ T2 ++ bodS ((pre ++ [(u, xs)]).map (fun x : Mv => x.2)) = S ++ mtS xs) := Lib.hid (by
        rw [List.map_append, bodS_app, ← ba_assoc, ← hS]
        congr 1
        exact bodS_one xs)
      have hxl := mayB_len hmay
      have hxa := mayB_all hmay
      obtain ⟨au, cu, rfl, nu⟩ := hx.nums
      have HI := Lib.hid hI
      have KX1 := hI.box
      rw [← hS] at KX1
      have hXW : X < W.heap.size := KX1.lt
      obtain ⟨W1, hW1⟩ : ∃ W1, W1 = W.alloc (.cells #[.slice au xs.length cu] 70) := ⟨_, rfl⟩
      have bA : Below W.heap.size W W1 := by rw [hW1]; exact (Below.refl _ W).alloc (Nat.le_refl _) _
      have K9 := Lib.hid (show Blk W1 W.heap.size 70 #[.slice au xs.length cu] by rw [hW1]; exact Blk.new _ _ _)
      have KXA := Lib.hid (KX1.next bA)
      have NUA := Lib.hid (nu.next bA)
      have HXA := Lib.hid (hx.fr (Fr.of_below bA (fun _ => False)) (fun _ _ h => h))
      have KK := Lib.hid (show KeepsOthers W W1 by rw [hW1]; exact KeepsOthers.alloc _ _)
      have BA := Lib.hid bA
      have HW1 := Lib.hid hW1
      have HXAL := Lib.hid hxa
      clear hW1 bA KX1 nu hx hI hxa HY HI0 hps hS hG hmay
      dsimp only [encM]
      gi_wp2
      rw [← HW1.out]
      refine ⟨KK.out, ?_⟩
      intro W2 f2 n1 n2
      have kX2 := KXA.out.fr f2 (KXA.out.nc n1)
      have k92 := K9.out.fr f2 (K9.out.nc n1)
      have F2 := Lib.hid (((Fr.of_below BA.out (fun q => q = X ∨ w2.heap.size ≤ q))).on (f2.mono (fun q _ h => .inr (by omega))))
      have hx2 := HXA.out.fr f2 (own_nc HXA.out n1)
      obtain ⟨a2, c2, e2, nu2⟩ := hx2.nums
      simp only [Value.slice.injEq, true_and] at e2
      obtain ⟨rfl, rfl⟩ := e2
      have HX2 := Lib.hid hx2
      have hY2 : W.heap.size < W2.heap.size := k92.lt
      have KX2 := Lib.hid kX2
      have K92 := Lib.hid k92
      have hX2 : W2.cell? ⟨X, 0, none⟩ = some (.string S) := kX2.cell 0
      have fX2 : W2.frozen? ⟨X, 0, none⟩ = false := kX2.free 0
      have h92 : W2.cell? ⟨W.heap.size, 0, none⟩ = some (.slice au xs.length cu) := k92.cell 0
      have NL := Lib.hid (fun V => Bt.num_any (xs.length : Int) (by omega) (by omega) V)
      have zL := Bt.numS_size (xs.length : Int)
      have MT : Hid (mtS xs = Bt.numS (xs.length : Int) ++ pkS xs) := Lib.hid rfl
      obtain ⟨TL, hTL⟩ : ∃ TL, TL = Bt.numS (xs.length : Int) := ⟨_, rfl⟩
      rw [← hTL] at NL zL MT
      clear hTL kX2 k92 f2 n1 n2 nu2 hx2 KXA K9 NUA HXA KK BA
      have uL : IntKind.u64.wrap (xs.length : Int) = (xs.length : Int) := IntWalk.u64_in _ (by omega)
      have q1 : ¬ (9223372036854775807 < S.size + TL.size) := by omega
      gi_wp2
      have hmx : Try.prog.follows .mixedOrders = true := mixedE
      gi_region_with_o (refine ⟨trivial, ?_⟩; gi_at_call 57; refine (CallsIn.inRound l (callsIn_wide.2 (NL.out _))).mono ?_; rintro e w3 ⟨rfl, b3⟩; have kX3 := Blk.next (w := W2.drew) KX2.out b3; have k93 := Blk.next (w := W2.drew) K92.out b3; have hX3 : w3.cell? ⟨X, 0, none⟩ = some (.string S) := kX3.cell 0; have fX3 : w3.frozen? ⟨X, 0, none⟩ = false := kX3.free 0; have h93 : w3.cell? ⟨W.heap.size, 0, none⟩ = some (.slice au xs.length cu) := k93.cell 0; have B3 := Lib.hid (bel_on (bel_dr (Below.refl W2.heap.size W2)) b3); have K3 := Lib.hid kX3; have K93 := Lib.hid k93; clear b3 kX3 k93)
      all_goals
        have KS3 := Lib.hid (K3.out.set 0 (.string (S ++ TL)))
        have OX3 := Lib.hid ((HX2.out.fr (Fr.of_below B3.out (fun _ => False)) (fun _ _ h => h)).fr (fr_set w3 X 0 (.string (S ++ TL))) (fun q hq e => by have := (own_ty HX2.out q hq).1; omega))
        have FS3 : Hid (Fr W (w3.setCell ⟨X, 0, none⟩ (.string (S ++ TL))) (fun q => q = X ∨ w2.heap.size ≤ q)) := Lib.hid (F2.out.on ((Fr.of_below B3.out (fun q => q = X ∨ w2.heap.size ≤ q)).set X 0 _ (.inl (.inl rfl))))
        have KO3 : Hid (KeepsOthers W2 (w3.setCell ⟨X, 0, none⟩ (.string (S ++ TL)))) := Lib.hid ((keeps_below B3.out).trans (KeepsOthers.setCell _ _ _))
        have K9S := Lib.hid (K93.out.fr (fr_set w3 X 0 (.string (S ++ TL))) (by omega))
        clear hX3 fX3 h93 B3 K3 K93 hX2 fX2 h92 KX2 K92 HX2 F2 q1 NL
        generalize w3.setCell ⟨X, 0, none⟩ (.string (S ++ TL)) = w4 at *
        have h94 : w4.cell? ⟨W.heap.size, 0, none⟩ = some (.slice au xs.length cu) := K9S.out.cell 0
        gi_wp2
        clear h94
        gi_loopw [41, 6] (fun i pv wr => ∃ (j : Nat) (SS : ByteArray), i = .int .i64 j ∧ j ≤ xs.length ∧ Hid (SS = S ++ TL ++ pkS (xs.take j)) ∧ Hid (Blk wr X 9 #[.string SS]) ∧ Hid (Fr W wr (fun q => q = X ∨ w2.heap.size ≤ q)) ∧ Hid (KeepsOthers W2 wr) ∧ Hid (OwnN wr w2.heap.size (.slice au xs.length cu) xs)) (fun i _ _ => xs.length - (intOf i).toNat)
        case atStart => exact ⟨0, S ++ TL, rfl, Nat.zero_le _, Lib.hid (ba_nil (S ++ TL)).symm, KS3, FS3, KO3, OX3⟩
        case round =>
          obtain ⟨j, SS, rfl, hj, hSS, hK, hF, hO, hX⟩ := hrel
          clear KS3 FS3 KO3 OX3 K9S
          by_cases hjn : j < xs.length
          · have hjI : (j : Int) < (xs.length : Int) := by omega
            obtain ⟨a5, c5, e5, nn⟩ := hX.out.nums
            simp only [Value.slice.injEq, true_and] at e5
            obtain ⟨rfl, rfl⟩ := e5
            obtain ⟨gp, op, e6, hgp, cp⟩ := nn j hjn
            subst e6
            have hy := HXAL.out xs[j] (List.getElem_mem hjn)
            have NJ := Lib.hid (fun V => Bt.num_any xs[j] (by omega) (by omega) V)
            have zJ := Bt.numS_size xs[j]
            have PK := Lib.hid (pkS_take hjn)
            have hsz : SS.size ≤ 20000 := by
              have := pkS_size (xs.take j)
              rw [List.length_take] at this
              rw [hSS.out, ba_size, ba_size]; omega
            obtain ⟨TJ, hTJ⟩ : ∃ TJ, TJ = Bt.numS xs[j] := ⟨_, rfl⟩
            rw [← hTJ] at NJ zJ PK
            clear hTJ
            have NS : Hid (SS ++ TJ = S ++ TL ++ pkS (xs.take (j + 1))) := Lib.hid (by rw [PK.out, hSS.out, ba_assoc (S ++ TL)])
            have uJ : IntKind.u64.wrap xs[j] = xs[j] := IntWalk.u64_in _ (by omega)
            have q2 : ¬ (9223372036854775807 < SS.size + TJ.size) := by omega
            have hXr : wr.cell? ⟨X, 0, none⟩ = some (.string SS) := hK.out.cell 0
            have fXr : wr.frozen? ⟨X, 0, none⟩ = false := hK.out.free 0
            generalize xs[j] = y at *
            clear nn PK hSS
            gi_wp2
            gi_region_with_o (refine ⟨trivial, ?_⟩; gi_at_call 57; refine (CallsIn.inRound l (callsIn_wide.2 (NJ.out _))).mono ?_; rintro e w5 ⟨rfl, b5⟩; have kX5 := Blk.next (w := wr.drew) hK.out b5; have hX5 : w5.cell? ⟨X, 0, none⟩ = some (.string SS) := kX5.cell 0; have fX5 : w5.frozen? ⟨X, 0, none⟩ = false := kX5.free 0; have B5 := Lib.hid (bel_on (bel_dr (Below.refl wr.heap.size wr)) b5); have K5 := Lib.hid kX5; clear b5 kX5)
            all_goals
              have hWr : w2.heap.size ≤ wr.heap.size := Nat.le_trans (Nat.le_trans HI.out.n hF.out.size) (Nat.le_refl _)
              have KS6 := Lib.hid (K5.out.set 0 (.string (SS ++ TJ)))
              have OX6 := Lib.hid ((hX.out.fr (Fr.of_below B5.out (fun _ => False)) (fun _ _ h => h)).fr (fr_set w5 X 0 (.string (SS ++ TJ))) (fun q hq e => by have := (own_ty hX.out q hq).1; omega))
              have FS6 : Hid (Fr W (w5.setCell ⟨X, 0, none⟩ (.string (SS ++ TJ))) (fun q => q = X ∨ w2.heap.size ≤ q)) := Lib.hid (hF.out.on ((Fr.of_below B5.out (fun q => q = X ∨ w2.heap.size ≤ q)).set X 0 _ (.inl (.inl rfl))))
              have KO6 : Hid (KeepsOthers W2 (w5.setCell ⟨X, 0, none⟩ (.string (SS ++ TJ)))) := Lib.hid ((hO.out.trans (keeps_below B5.out)).trans (KeepsOthers.setCell _ _ _))
              clear hX5 fX5 B5 K5 hXr fXr hK hX hF hO cp
              generalize w5.setCell ⟨X, 0, none⟩ (.string (SS ++ TJ)) = w6 at *
              gi_wp2
              go_roundw
              case rel => exact ⟨j + 1, SS ++ TJ, by go_num, by omega, NS, KS6, FS6, KO6, OX6⟩
              case measure => simp [intOf]; omega
          · obtain rfl : j = xs.length := by omega
            have hjI : ¬ (xs.length : Int) < (xs.length : Int) := by omega
            have EQ : SS = T1 ++ T2 ++ bodS ((pre ++ [(Value.slice au xs.length cu, xs)]).map (fun x : Mv => x.2)) := by
              rw [NXT.out, MT.out, hSS.out, List.take_of_length_le (Nat.le_refl _), ba_assoc]
            have K7 := hK.out
            rw [EQ] at K7
            have B7 := HI.out.b.trans (hF.out.below (B := W0.heap.size) (fun q h => by rcases h with rfl | h <;> omega) HI.out.b.size)
            have FIN : Hid (KeepsOthers W2 wr ∧ Fr W wr (fun q => q = X ∨ w2.heap.size ≤ q) ∧ TxI W0 X w2.heap.size (T1 ++ T2) (pre ++ [(Value.slice au xs.length cu, xs)]) wr) := Lib.hid ⟨hO.out, hF.out, K7, B7, Nat.le_trans HI.out.n hF.out.size⟩
            clear K7 B7 EQ hSS hK hF hO hX
            gi_wp2
            exact FIN.out
    case done =>
      intro ms W hS hI hD
      have kX3 := hI.box
      rw [hS, ← HT.out] at kX3
      have hz : W.cell? ⟨X, 0, none⟩ = some (.string (txtS base LL)) := kX3.cell 0
      have HD := Lib.hid hD
      have HB := Lib.hid (hI.b.trans ((fr_putObj W w2.heap.size (.deferred none)).below (B := W0.heap.size) (fun q e => by omega) hI.b.size))
      clear hD hI hS kX3 HY HI0 HSH HNN HT
      obtain ⟨E, hE⟩ : ∃ E, E = txtS base LL := ⟨_, rfl⟩
      rw [← hE] at hz
      have HE := Lib.hid hE
      clear hE
      go_wp2_with fail
      refine ⟨by simp, .inl ⟨_, _, rfl, run_takeDeferred HD.out, ?_⟩⟩
      refine ⟨_, (by simp [results, Try.results29, go_sem]; try rfl), ?_⟩
      exact ⟨by rw [HE.out], BB.out.trans (HB.out.mono BB.out.size)⟩
end Go.Proofs.Ytggjpallbapcmaa.Bk
