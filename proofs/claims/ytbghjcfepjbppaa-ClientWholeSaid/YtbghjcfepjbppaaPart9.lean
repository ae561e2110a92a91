/-
  WHAT THE ROWS REST ON, part 9: Btp BWas Blb Btx Whs Brt Brw.
-/
import Derived.Deep.RegionHeld3
import Derived.Deep.DeepCutAuto
import Derived.Shelf.Abstract
import Derived.Shelf.RegionOpen
import Derived.Lib.QuietBelow
import Derived.Test.YtbghjcfepjbppaaPart8
/-
  A book's text, plainly.
-/
namespace Go.Proofs.Ytbghjcfepjbppaa.Bk
open Go.RowKit
theorem mixedE : Try.prog.follows .mixedOrders = true := by kernel_rfl
theorem ba_assoc (a b c : ByteArray) : a ++ b ++ c = a ++ (b ++ c) := ByteArray.append_assoc
theorem ba_nil (a : ByteArray) : a ++ ⟨#[]⟩ = a := by apply ByteArray.ext; simp
theorem ba_nil_l (a : ByteArray) : (⟨#[]⟩ : ByteArray) ++ a = a := by apply ByteArray.ext; simp
theorem ba_size (a b : ByteArray) : (a ++ b).size = a.size + b.size := ByteArray.size_append
/-- numbers' bytes -/
def pkS : List Int → ByteArray
  | [] => ⟨#[]⟩
  | x :: r => Bt.numS x ++ pkS r
/-- a match's bytes -/
def mtS (xs : List Int) : ByteArray := Bt.numS (xs.length : Int) ++ pkS xs
def bodS : List (List Int) → ByteArray
  | [] => ⟨#[]⟩
  | x :: r => mtS x ++ bodS r
def txtS (base : Int) (LL : List (List Int)) : ByteArray := Bt.numS base ++ Bt.numS (LL.length : Int) ++ bodS LL
theorem pkS_app (l r : List Int) : pkS (l ++ r) = pkS l ++ pkS r := by
  induction l with
  | nil => exact (ba_nil_l _).symm
  | cons x l ih => rw [List.cons_append]; show Bt.numS x ++ pkS (l ++ r) = _; rw [ih, ← ba_assoc]; rfl
theorem pkS_take {L : List Int} {j : Nat} (h : j < L.length) : pkS (L.take (j + 1)) = pkS (L.take j) ++ Bt.numS L[j] := by
  rw [List.take_succ_eq_append_getElem h, pkS_app]
  congr 1
  exact ba_nil _
theorem bodS_app (l r : List (List Int)) : bodS (l ++ r) = bodS l ++ bodS r := by
  induction l with
  | nil => exact (ba_nil_l _).symm
  | cons x l ih => rw [List.cons_append]; show mtS x ++ bodS (l ++ r) = _; rw [ih, ← ba_assoc]; rfl
theorem bodS_one (x : List Int) : bodS [x] = mtS x := ba_nil _
theorem pkS_size (L : List Int) : (pkS L).size ≤ 9 * L.length := by
  induction L with
  | nil => exact Nat.zero_le _
  | cons x r ih =>
    have := Bt.numS_size x
    show (Bt.numS x ++ pkS r).size ≤ _
    rw [ba_size, List.length_cons]; omega
theorem mtS_size {xs : List Int} (h : xs.length ≤ 16) : (mtS xs).size ≤ 153 := by
  have := Bt.numS_size (xs.length : Int)
  have := pkS_size xs
  unfold mtS
  rw [ba_size]; omega
theorem bodS_size : ∀ {L : List (List Int)}, (∀ x ∈ L, x.length ≤ 16) → (bodS L).size ≤ 153 * L.length
  | [], _ => Nat.zero_le _
  | x :: r, h => by
    have h1 := mtS_size (h x (by simp))
    have h2 := bodS_size (L := r) (fun y hy => h y (by simp [hy]))
    show (mtS x ++ bodS r).size ≤ _
    rw [ba_size, List.length_cons]; omega
end Go.Proofs.Ytbghjcfepjbppaa.Bk
/-
  WHAT IS WRITTEN IS READ AS IT WAS: plain, of each kind.
-/
namespace Go.Proofs.Ytbghjcfepjbppaa.Bt
open Go.RowKit
theorem join_be (k : Nat) : ∀ n : Nat, joinN (u8l (be k (n : Int))) = n % 256 ^ k := by
  induction k with
  | zero => intro n; simp [be, u8l, joinN, Nat.mod_one]
  | succ k ih =>
    intro n
    have e : ((n : Int) / 256) = ((n / 256 : Nat) : Int) := by omega
    rw [be, u8s_snoc, joinN_snoc, e, ih, Nat.pow_succ, Nat.mul_comm (256 ^ k) 256, Nat.mod_mul]
    have e2 : (UInt8.ofNat ((n : Int) % 256).toNat).toNat = n % 256 := by
      rw [UInt8.toNat_ofNat']; omega
    rw [e2]; omega
theorem u8l_len (l : List Int) : (u8l l).length = l.length := by simp [u8l]
theorem wid_hi {n : Nat} (h : n < 18446744073709551616) : n < 256 ^ wid (n : Int) := by
  unfold wid
  repeat' split
  all_goals simp only [Nat.reducePow]; omega
theorem wid_lo {n : Nat} (h : 247 < n) : leastN (wid (n : Int)) ≤ n := by
  unfold wid leastN
  repeat' split
  all_goals first | omega | (simp only [Nat.reduceSub, Nat.reducePow]; omega)
theorem rd_num (n : Nat) (h : n < 18446744073709551616) (more : List UInt8) : rdNum ((numS (n : Int)).data.toList ++ more) = (n, (numS (n : Int)).size, 0) := by
  rw [Lib.size_eq]
  unfold numS
  rw [strOfNums_data]
  by_cases h1 : (n : Int) ≤ 247
  · unfold numI
    rw [if_pos h1]
    have e : (UInt8.ofNat ((n : Int).toNat)).toNat = n := by rw [UInt8.toNat_ofNat']; omega
    simp only [List.map_cons, List.map_nil, List.cons_append, List.nil_append, rdNum, e]
    rw [if_pos (by omega)]
    simp
  · unfold numI
    rw [if_neg h1]
    have hw := wid_le (n : Int)
    have e : (UInt8.ofNat (((247 + wid (n : Int) : Nat) : Int).toNat)).toNat = 247 + wid (n : Int) := by rw [UInt8.toNat_ofNat']; omega
    simp only [List.map_cons, List.cons_append, rdNum, e]
    have hl : (List.map (fun m : Int => UInt8.ofNat m.toNat) (be (wid (n : Int)) (n : Int))).length = wid (n : Int) := by rw [List.length_map, be_len]
    have ht : (List.map (fun m : Int => UInt8.ofNat m.toNat) (be (wid (n : Int)) (n : Int)) ++ more).take (wid (n : Int)) = u8l (be (wid (n : Int)) (n : Int)) := by
      rw [List.take_append_of_le_length (by omega), List.take_of_length_le (by omega)]; rfl
    rw [if_neg (by omega), if_neg (by rw [List.length_append, hl]; omega), show 247 + wid (n : Int) - 247 = wid (n : Int) by omega, ht, join_be, Nat.mod_eq_of_lt (wid_hi h), if_neg (by have := wid_lo (n := n) (by omega); omega)]
    simp only [List.length_cons, hl]
theorem rd_int (n : Int) (h0 : -9223372036854775808 ≤ n) (h1 : n ≤ 9223372036854775807) (more : List UInt8) : rdInt ((intS n).data.toList ++ more) = (n, (intS n).size, 0) := by
  unfold rdInt intS
  rw [rd_num _ (by have := zig_lt h0 h1; omega)]
  have e : unz (Lib.zigzag n) = n := by
    unfold unz Lib.zigzag
    split <;> split <;> omega
  rw [e]
theorem rd_flag (b : Bool) (more : List UInt8) : rdFlag ((flagS b).data.toList ++ more) = (b, (flagS b).size, 0) := by
  cases b <;> rfl
theorem rd_text (s more : ByteArray) (hs : s.size < 9223372036854775808) : rdText (textS s ++ more) (s.size : Int) = (s, (textS s).size, 0) := by
  have hd : (textS s ++ more).data.toList = (numS (s.size : Int)).data.toList ++ (s.data.toList ++ more.data.toList) := by
    unfold textS; rw [cat_data, cat_data, List.append_assoc]
  have hR : rdNum (textS s ++ more).data.toList = (s.size, (numS (s.size : Int)).size, 0) := by rw [hd]; exact rd_num _ (by omega) _
  have hz : (textS s ++ more).size = (numS (s.size : Int)).size + s.size + more.size := by unfold textS; rw [ByteArray.size_append, ByteArray.size_append]
  rw [rdText_eq _ _ hR, if_neg (by simp), if_neg (by omega), if_neg (by omega)]
  have ht : (textS s).size = (numS (s.size : Int)).size + s.size := by unfold textS; rw [ByteArray.size_append]
  rw [ht]
  refine congrArg (fun x => (x, _)) ?_
  apply bytes_ext
  rw [Lib.extract_data, hd, Lib.size_eq (numS (s.size : Int)), List.drop_left, Nat.add_sub_cancel_left, Lib.size_eq s, List.take_left]
theorem none_none : isNo 9221120237041090561 = true := by decide +kernel
theorem codeN_idem (f : Nat) : codeN (codeN f) = codeN f := by
  by_cases h : isNo f
  · have e : codeN f = 9221120237041090561 := by unfold codeN; rw [if_pos h]
    rw [e]
    unfold codeN
    rw [if_pos none_none]
  · have e : codeN f = f := by unfold codeN; rw [if_neg h]
    rw [e, e]
theorem rd_real (f : Nat) (hf : f < 18446744073709551616) (more : List UInt8) : rdReal ((realS f).data.toList ++ more) = (codeN f, (realS f).size, 0) := by
  have hl : (realS f).data.toList = u8l (be 8 ((codeN f : Nat) : Int)) := by unfold realS; rw [strOfNums_data]; rfl
  have hs : (realS f).size = 8 := by rw [Lib.size_eq, hl, u8l_len, be_len]
  have ht : ((realS f).data.toList ++ more).take 8 = u8l (be 8 ((codeN f : Nat) : Int)) := by
    rw [hl, List.take_append_of_le_length (by rw [u8l_len, be_len]; exact Nat.le_refl _), List.take_of_length_le (by rw [u8l_len, be_len]; exact Nat.le_refl _)]
  have hj : joinN (u8l (be 8 ((codeN f : Nat) : Int))) = codeN f := by
    rw [join_be]
    exact Nat.mod_eq_of_lt (codeN_lt hf)
  unfold rdReal
  rw [ht, hj, if_neg (by rw [List.length_append, ← Lib.size_eq, hs]; omega), if_neg (by rw [codeN_idem]; simp), hs]
end Go.Proofs.Ytbghjcfepjbppaa.Bt
/-
  What is written is read as it was, plainly.
-/
namespace Go.Proofs.Ytbghjcfepjbppaa.Bk
open Go.RowKit
theorem drop_cat (a b : ByteArray) : (a ++ b).extract a.size (a ++ b).size = b := Bt.bytes_ext (by
  rw [Bt.ext_data, Bt.cat_data, List.drop_left' (by rw [Lib.size_eq])])
theorem num_put (n : Nat) (hn : n < 18446744073709551616) (rest : ByteArray) : pn (Bt.numS (n : Int) ++ rest, 0) = (n, (rest, 0)) := by
  unfold pn Bt.tNum
  simp only
  rw [Bt.cat_data, Bt.rd_num n hn, Bt.tk_ok, drop_cat]
theorem pNs_put (xs : List Int) (hx : ∀ x ∈ xs, 0 ≤ x ∧ x ≤ 549755813888) (rest : ByteArray) : ∀ k, k ≤ xs.length → pNs k (pkS xs ++ rest, 0) = (xs.take k, (pkS (xs.drop k) ++ rest, 0))
  | 0, _ => by rw [List.take_zero, List.drop_zero]; rfl
  | k + 1, hk => by
    have ih := pNs_put xs hx rest k (by omega)
    have hkl : k < xs.length := by omega
    show ((pNs k (pkS xs ++ rest, 0)).1 ++ [IntKind.i64.wrap ((pn (pNs k (pkS xs ++ rest, 0)).2).1 : Int)], (pn (pNs k (pkS xs ++ rest, 0)).2).2) = _
    rw [ih, List.drop_eq_getElem_cons hkl]
    have hy := hx xs[k] (List.getElem_mem hkl)
    have hp : pkS (xs[k] :: xs.drop (k + 1)) ++ rest = Bt.numS ((xs[k].toNat : Nat) : Int) ++ (pkS (xs.drop (k + 1)) ++ rest) := by
      show Bt.numS xs[k] ++ pkS (xs.drop (k + 1)) ++ rest = _
      rw [ba_assoc, Int.toNat_of_nonneg hy.1]
    simp only [hp]
    rw [num_put _ (by omega)]
    simp only
    rw [List.take_succ_eq_append_getElem hkl, Int.toNat_of_nonneg hy.1, show IntKind.i64.wrap xs[k] = xs[k] by rw [IntKind.wrap_i64]; omega]
theorem pMt_put {xs : List Int} (h : mayB xs = true) (rest : ByteArray) : pMt (mtS xs ++ rest, 0) = (xs, (rest, 0)) := by
  have hl := mayB_len h
  unfold pMt mtS
  rw [ba_assoc, num_put _ (by omega)]
  simp only
  rw [Nat.min_eq_left (by omega), pNs_put xs (mayB_all h) rest xs.length (Nat.le_refl _), List.take_of_length_le (Nat.le_refl _), List.drop_of_length_le (Nat.le_refl _)]
  rw [show pkS [] = ⟨#[]⟩ from rfl, ba_nil_l]
theorem pLd_put {base : Int} {LL : List (List Int)} (sh : Shr LL) (hb : base + LL.length ≤ 549755813888) (rest : ByteArray) : ∀ k, k ≤ LL.length → pLd base k (bodS LL ++ rest, 0) = some (LL.take k, (bodS (LL.drop k) ++ rest, 0))
  | 0, _ => by rw [List.take_zero, List.drop_zero]; rfl
  | k + 1, hk => by
    have ih := pLd_put sh hb rest k (by omega)
    have hkl : k < LL.length := by omega
    have hm := sh LL[k] (List.getElem_mem hkl)
    show (pLd base k (bodS LL ++ rest, 0)).bind _ = _
    rw [ih, List.drop_eq_getElem_cons hkl]
    have hp : bodS (LL[k] :: LL.drop (k + 1)) ++ rest = mtS LL[k] ++ (bodS (LL.drop (k + 1)) ++ rest) := by
      show mtS LL[k] ++ bodS (LL.drop (k + 1)) ++ rest = _
      rw [ba_assoc]
    have hE : ptE base (LL.take k) LL[k] = 0 := by
      unfold ptE
      rw [if_pos hm, List.length_take, Nat.min_eq_left (by omega), if_neg (by omega)]
    show (if ptE base (LL.take k) (pMt (bodS (LL[k] :: LL.drop (k + 1)) ++ rest, 0)).1 = 0 then some (LL.take k ++ [(pMt (bodS (LL[k] :: LL.drop (k + 1)) ++ rest, 0)).1], (pMt (bodS (LL[k] :: LL.drop (k + 1)) ++ rest, 0)).2) else none) = _
    rw [hp, pMt_put hm]
    simp only
    rw [if_pos hE, List.take_succ_eq_append_getElem hkl]
theorem pLoad_put {base : Int} {LL : List (List Int)} (ok : BOk base LL) (sh : Shr LL) : pLoad (txtS base LL) = some (base, LL) := by
  have h0 := ok.b0
  have h1 := ok.b1
  have h2 := ok.n
  obtain ⟨b, rfl⟩ : ∃ b : Nat, base = (b : Int) := ⟨base.toNat, by omega⟩
  have hT : txtS (b : Int) LL = Bt.numS (b : Int) ++ (Bt.numS (LL.length : Int) ++ bodS LL) := by unfold txtS; rw [ba_assoc]
  have p0 : pn (txtS (b : Int) LL, 0) = (b, (Bt.numS (LL.length : Int) ++ bodS LL, 0)) := by rw [hT, num_put _ (by omega)]
  have p1 : pn (Bt.numS (LL.length : Int) ++ bodS LL, 0) = (LL.length, (bodS LL, 0)) := num_put _ (by omega) _
  have p2 := pLd_put (base := (b : Int)) sh h1 ⟨#[]⟩ LL.length (Nat.le_refl _)
  rw [ba_nil, List.take_of_length_le (Nat.le_refl _), List.drop_of_length_le (Nat.le_refl _), ba_nil] at p2
  unfold pLoad
  rw [p0]
  simp only
  rw [p1]
  simp only
  rw [if_neg (by omega), p2]
  rfl
end Go.Proofs.Ytbghjcfepjbppaa.Bk
/-
  The book: Text 19.
-/
namespace Go.Proofs.Ytbghjcfepjbppaa.Bk
open Go.RowKit
attribute [local go_sem] Oper.semAt_some
section
variable {A B C : World}
theorem bel_on (h : Below A.heap.size A B) (k : Below B.heap.size B C) : Below A.heap.size A C := h.trans (k.mono h.size)
theorem bel_al (h : Below A.heap.size A B) (o : Obj) : Below A.heap.size A (B.alloc o) := h.alloc h.size o
theorem bel_dr (h : Below A.heap.size A B) : Below A.heap.size A B.drew := h.drew
theorem bel_set (h : Below A.heap.size A B) {X : Nat} (hX : A.heap.size ≤ X) (i : Nat) (u : Value) : Below A.heap.size A (B.setCell ⟨X, i, none⟩ u) := h.setCell (p := ⟨X, i, none⟩) hX u
end
theorem blk_newd (w : World) (t : TypeId) (cs : Array Value) : Blk ((w.alloc (.cells cs t)).drew) w.heap.size t cs := Blk.new w t cs
/-- what behind lays -/
theorem boxes (w1 : World) (t : Nat) (x y : Int) : ∃ w2, w2 = ((w1.alloc (.cells #[.pointer (some ⟨t, 0, none⟩)] 76)).alloc (.cells #[.int .i64 x] 3)).alloc (.cells #[.int .i64 y] 3) ∧
    Blk w2 w1.heap.size 76 #[.pointer (some ⟨t, 0, none⟩)] ∧ Blk w2 (w1.heap.size + 1) 3 #[.int .i64 x] ∧ Blk w2 (w1.heap.size + 2) 3 #[.int .i64 y] ∧ Below w1.heap.size w1 w2 := by
  obtain ⟨w2, hw2⟩ : ∃ w2, w2 = ((w1.alloc (.cells #[.pointer (some ⟨t, 0, none⟩)] 76)).alloc (.cells #[.int .i64 x] 3)).alloc (.cells #[.int .i64 y] 3) := ⟨_, rfl⟩
  have z1 : (w1.alloc (.cells #[.pointer (some ⟨t, 0, none⟩)] 76)).heap.size = w1.heap.size + 1 := by simp
  have z2 : ((w1.alloc (.cells #[.pointer (some ⟨t, 0, none⟩)] 76)).alloc (.cells #[.int .i64 x] 3)).heap.size = w1.heap.size + 2 := by simp
  have kt1 := Blk.new w1 76 #[.pointer (some ⟨t, 0, none⟩)]
  have kf1 := Blk.new (w1.alloc (.cells #[.pointer (some ⟨t, 0, none⟩)] 76)) 3 #[.int .i64 x]
  have km1 := Blk.new ((w1.alloc (.cells #[.pointer (some ⟨t, 0, none⟩)] 76)).alloc (.cells #[.int .i64 x] 3)) 3 #[.int .i64 y]
  have bA := (Below.refl w1.heap.size w1).alloc (Nat.le_refl _) (.cells #[.pointer (some ⟨t, 0, none⟩)] 76)
  have bB := (Below.refl (w1.heap.size + 1) (w1.alloc (.cells #[.pointer (some ⟨t, 0, none⟩)] 76))).alloc (by simp) (.cells #[.int .i64 x] 3)
  have bC := (Below.refl (w1.heap.size + 2) ((w1.alloc (.cells #[.pointer (some ⟨t, 0, none⟩)] 76)).alloc (.cells #[.int .i64 x] 3))).alloc (by simp) (.cells #[.int .i64 y] 3)
  rw [z1] at kf1
  rw [z2] at km1
  rw [← hw2] at km1 bC
  exact ⟨w2, hw2, (kt1.below bB (by omega)).below bC (by omega), kf1.below bC (by omega), km1, (bA.trans (bB.mono (by omega))).trans (bC.mono (by omega))⟩
/-- the loop's state -/
structure TxI (w : World) (X Wl : Nat) (H : ByteArray) (pre : List Mv) (W : World) : Prop where
  box : Blk W X 9 #[.string (H ++ bodS (pre.map (fun x : Mv => x.2)))]
  b : Below w.heap.size w W
  n : Wl ≤ W.heap.size
theorem TxI.turn {w A B : World} {X Wl : Nat} {H : ByteArray} {pre : List Mv} (h : TxI w X Wl H pre A) (hw : w.heap.size ≤ Wl) (hn : NC A (Wl + 1)) (f : Fr A B (fun q => q = Wl + 1)) : TxI w X Wl H pre B :=
  ⟨h.box.fr f (h.box.nc hn), h.b.trans (f.below (fun q e => by omega) h.b.size), Nat.le_trans h.n f.size⟩
theorem sub_all {base : Int} {LL : List (List Int)} (h : LL.length ≤ 64) : sub base LL base 64 = LL := by
  unfold sub
  rw [Int.sub_self]
  show (LL.drop 0).take 64 = LL
  rw [List.drop_zero, List.take_of_length_le h]
set_option maxHeartbeats 16000000 in
set_option maxRecDepth 100000 in
theorem text_any {w W0 : World} {Bk : Nat → Prop} {t : Nat} {base : Int} {LL : List (List Int)} (hBK : BookAt W0 Bk t base LL) (ok : BOk base LL) (sh : Shr LL) (hw : W0 = w) : Calls Try.prog 29 #[.pointer (some ⟨t, 0, none⟩)] w fun e w' => e = .returned (.string (txtS base LL)) ∧ Below w.heap.size w w' := by
  have o0 := ok.b0
  have o1 := ok.b1
  have o2 := ok.n
  have N1 := Lib.hid (fun W => Bt.num_any base (by omega) (by omega) W)
  have N2 := Lib.hid (fun W => Bt.num_any (LL.length : Int) (by omega) (by omega) W)
  have z1 := Bt.numS_size base
  have z2 := Bt.numS_size (LL.length : Int)
  have HT : Hid (txtS base LL = Bt.numS base ++ Bt.numS (LL.length : Int) ++ bodS LL) := Lib.hid rfl
  obtain ⟨T1, hT1⟩ : ∃ T1, T1 = Bt.numS base := ⟨_, rfl⟩
  obtain ⟨T2, hT2⟩ : ∃ T2, T2 = Bt.numS (LL.length : Int) := ⟨_, rfl⟩
  rw [← hT1] at N1 z1 HT
  rw [← hT2] at N2 z2 HT
  clear hT1 hT2
  have u1 : IntKind.u64.wrap base = base := IntWalk.u64_in _ (by omega)
  have u2 : IntKind.u64.wrap (LL.length : Int) = (LL.length : Int) := IntWalk.u64_in _ (by omega)
  subst hw
  have HBK := Lib.hid hBK
  refine (callsIn_wide (n := 6)).1 ?_
  refine callsIn_of_wp_marks Try.func29 rfl trivial ?_ rfl
  simp only [Try.ntmps29, List.size_toArray, List.length_cons, List.length_nil, Nat.reduceAdd, Nat.reduceSub, Array.replicate_succ, Array.replicate_zero, List.push_toArray, List.append_toArray, List.nil_append, List.cons_append]
  refine wpIn_wide.2 ?_
  go_upto_region 3 with fail
  obtain ⟨v0, cs0, k0, r0, e0, -, -, hlt0⟩ := hBK
  have hcl0 := e0.1
  obtain ⟨va, vc, rfl, -, -⟩ := r0.form
  rw [hcl0] at k0
  have K0 := Lib.hid k0
  have HLT := Lib.hid hlt0
  have htW : t < W0.heap.size := k0.lt
  clear k0 r0 e0 hlt0 hcl0
  have q1 : ¬ (9223372036854775807 < T1.size + T2.size) := by omega
  have SOF : Hid (∀ w', Below W0.heap.size W0 w' → w'.cell? ⟨t, 0, none⟩ = some (.int .i64 base) ∧ w'.cell? ⟨t, 1, none⟩ = some (.slice va LL.length vc) ∧ Below W0.heap.size W0 w') := Lib.hid fun w' b => ⟨(K0.out.next b).cell 0, (K0.out.next b).cell 1, b⟩
  have S1 := SOF.out _ (bel_dr (Below.refl W0.heap.size W0))
  have hl64 : (LL.length : Int) ≤ 64 := by omega
  have c0 : W0.cell? ⟨t, 0, none⟩ = some (.int .i64 base) := K0.out.cell 0
  obtain ⟨nn, hnn⟩ : ∃ nn, nn = LL.length := ⟨_, rfl⟩
  rw [← hnn] at SOF N2 u2 K0 S1 hl64
  have HNN := Lib.hid hnn
  clear hnn
  go_cut [3] from 4 (fun s3 wx => ∃ X, s3 = .pointer (some ⟨X, 0, none⟩) ∧ Blk wx X 9 #[.string (T1 ++ T2)] ∧ W0.heap.size ≤ X ∧ Hid (Below W0.heap.size W0 wx))
  case first =>
    go_region_held3 (fun w' => w'.cell? ⟨t, 0, none⟩ = some (.int .i64 base) ∧ w'.cell? ⟨t, 1, none⟩ = some (.slice va nn vc) ∧ Below W0.heap.size W0 w')
      (first | (with_reducible exact S1) | (refine SOF.out _ ?_; (repeat (with_reducible first | assumption | exact Below.refl _ _ | refine bel_dr ?_ | refine bel_al ?_ _ | refine bel_set ?_ ?_ _ _)); all_goals (first | done | exact Nat.le_refl _ | exact f1.size | exact f2.size); done))
      (first
        | (go_at_call 57; (with_reducible refine (N1.out _).mono ?_); rintro r w1 ⟨rfl, b1⟩; have f1 : Below W0.heap.size W0 w1 := bel_on (by (repeat (with_reducible first | assumption | exact Below.refl _ _ | refine bel_dr ?_ | refine bel_al ?_ _))) b1; (first | (have kx1 := Blk.next kx2 b1; have za1 := kx1.cell 0; have zf1 := kx1.free 0) | (have kx1 := Blk.next (Blk.new _ 9 #[.string ⟨#[]⟩]) b1; have za1 := kx1.cell 0; have zf1 := kx1.free 0) | (have kx1 := Blk.next (blk_newd _ 9 #[.string ⟨#[]⟩]) b1; have za1 := kx1.cell 0; have zf1 := kx1.free 0) | skip))
        | (go_at_call 57; (with_reducible refine (N2.out _).mono ?_); rintro r w2 ⟨rfl, b2⟩; have f2 : Below W0.heap.size W0 w2 := bel_on (by (repeat (with_reducible first | assumption | exact Below.refl _ _ | refine bel_dr ?_ | refine bel_al ?_ _))) b2; (first | (have kx2 := Blk.next kx1 b2; have za2 := kx2.cell 0; have zf2 := kx2.free 0) | (have kx2 := Blk.next (Blk.new _ 9 #[.string ⟨#[]⟩]) b2; have za2 := kx2.cell 0; have zf2 := kx2.free 0) | (have kx2 := Blk.next (blk_newd _ 9 #[.string ⟨#[]⟩]) b2; have za2 := kx2.cell 0; have zf2 := kx2.free 0) | skip)))
    all_goals
      go_wp2_with fail
      go_meet
      first
        | exact ⟨_, rfl, Blk.new _ _ _, f2.size, Lib.hid (bel_al f2 _)⟩
        | exact ⟨_, rfl, Blk.new _ _ _, f1.size, Lib.hid (bel_al f1 _)⟩
        | exact ⟨_, rfl, kx2.set 0 _, Nat.le_refl _, Lib.hid (bel_set f2 (Nat.le_refl _) _ _)⟩
        | exact ⟨_, rfl, kx2.set 0 _, f1.size, Lib.hid (bel_set f2 f1.size _ _)⟩
        | exact ⟨_, rfl, kx1.set 0 _, Nat.le_refl _, Lib.hid (bel_set f1 (Nat.le_refl _) _ _)⟩
        | exact ⟨_, rfl, kx1.set 0 _, f2.size, Lib.hid (bel_set f1 f2.size _ _)⟩
  case rest =>
    obtain ⟨X, rfl, kX, hX, hBc⟩ := hcut
    obtain ⟨w2, hw2, kt2, kf2, km2, b2⟩ := boxes wc t base 64
    have hBK2 := (HBK.out.next hBc.out).next b2
    have HY := Lib.hid (yields (Fb := fun q => q = X) 5 (by decide) hBK2 ok sh.short (Int.le_refl _) (by omega) (by decide) kt2 kf2 km2 (fun q hq e => by have := HLT.out q hq; omega))
    rw [sub_all o2] at HY
    have kX2 := kX.next b2
    have hXl : X < w2.heap.size := kX2.lt
    have bW2 := bel_on hBc.out b2
    have HI0 : Hid (TxI W0 X w2.heap.size (T1 ++ T2) [] w2) := Lib.hid ⟨by rw [List.map_nil]; show Blk w2 X 9 #[.string (T1 ++ T2 ++ ⟨#[]⟩)]; rw [ba_nil]; exact kX2, bW2, Nat.le_refl _⟩
    have hwl : W0.heap.size ≤ w2.heap.size := bW2.size
    have HW2 := Lib.hid hw2
    have HSH := Lib.hid sh
    have hT12 : (T1 ++ T2).size ≤ 18 := by rw [ba_size]; omega
    clear hBK2 kX2 hw2 kt2 kf2 km2 b2 bW2 HBK sh HLT N2
    have c0c : wc.cell? ⟨t, 0, none⟩ = some (.int .i64 base) := (K0.out.next hBc.out).cell 0
    clear kX S1 SOF N1 u2 c0 q1 hBc K0 u1 z1 z2
    go_wp2_with fail
    refine ((callsIn_wide (n := 3)).1 (behind_any t base 64)).mono ?_
    rintro e w' ⟨rfl, rfl⟩
    rw [← HW2.out]
    clear HW2 c0c
    go_wp2_with fail
    refine (wpIn_wide (n := 6)).1 ?_
    refine range_law (m := 6) (by decide) rfl (Go.Proofs.enters_of Try.func81 (by kernel_rfl) rfl) HY.out rfl (TxI W0 X w2.heap.size (T1 ++ T2)) (fun s A B i nc f => i.turn hwl nc f) HI0.out ?round ?done
    case round =>
      intro l pre x W hI hx hG hlt hnc
      obtain ⟨u, xs⟩ := x
      simp only at hx
      have hmay : mayB xs = true := HSH.out xs (hG.subset (by simp))
      have hpl : (pre.map (fun x : Mv => x.2)).length ≤ 64 := by
        have := hG.length_le
        simp at this ⊢
        omega
      have hps : ∀ y ∈ pre.map (fun x : Mv => x.2), y.length ≤ 16 := fun y hy => (mayB_len (HSH.out y (hG.subset (by rw [List.map_append]; exact List.mem_append_left _ hy)))).2
      obtain ⟨S, hS⟩ : ∃ S, S = T1 ++ T2 ++ bodS (pre.map (fun x : Mv => x.2)) := ⟨_, rfl⟩
      have hSs : S.size ≤ 10000 := by
        have := bodS_size hps
        rw [hS, ba_size]; omega
      have NXT : Hid (T1 ++ T2 ++ bodS ((pre ++ [(u, xs)]).map (fun x : Mv => x.2)) = S ++ mtS xs) := Lib.hid (by
        rw [List.map_append, bodS_app, ← ba_assoc, ← hS]
        congr 1
        exact bodS_one xs)
      have hxl := mayB_len hmay
      have hxa := mayB_all hmay
      obtain ⟨au, cu, rfl, nu⟩ := hx.nums
      have HI := Lib.hid hI
      have KX1 := hI.box
      rw [← hS] at KX1
      have hXW : X < W.heap.size := KX1.lt
      obtain ⟨W1, hW1⟩ : ∃ W1, W1 = W.alloc (.cells #[.slice au xs.length cu] 70) := ⟨_, rfl⟩
      have bA : Below W.heap.size W W1 := by rw [hW1]; exact (Below.refl _ W).alloc (Nat.le_refl _) _
      have K9 := Lib.hid (show Blk W1 W.heap.size 70 #[.slice au xs.length cu] by rw [hW1]; exact Blk.new _ _ _)
      have KXA := Lib.hid (KX1.next bA)
      have NUA := Lib.hid (nu.next bA)
      have HXA := Lib.hid (hx.fr (Fr.of_below bA (fun _ => False)) (fun _ _ h => h))
      have KK := Lib.hid (show KeepsOthers W W1 by rw [hW1]; exact KeepsOthers.alloc _ _)
      have BA := Lib.hid bA
      have HW1 := Lib.hid hW1
      have HXAL := Lib.hid hxa
      clear hW1 bA KX1 nu hx hI hxa HY HI0 hps hS hG hmay
      dsimp only [encM]
      gi_wp2
      rw [← HW1.out]
      refine ⟨KK.out, ?_⟩
      intro W2 f2 n1 n2
      have kX2 := KXA.out.fr f2 (KXA.out.nc n1)
      have k92 := K9.out.fr f2 (K9.out.nc n1)
      have F2 := Lib.hid (((Fr.of_below BA.out (fun q => q = X ∨ w2.heap.size ≤ q))).on (f2.mono (fun q _ h => .inr (by omega))))
      have hx2 := HXA.out.fr f2 (own_nc HXA.out n1)
      obtain ⟨a2, c2, e2, nu2⟩ := hx2.nums
      simp only [Value.slice.injEq, true_and] at e2
      obtain ⟨rfl, rfl⟩ := e2
      have HX2 := Lib.hid hx2
      have hY2 : W.heap.size < W2.heap.size := k92.lt
      have KX2 := Lib.hid kX2
      have K92 := Lib.hid k92
      have hX2 : W2.cell? ⟨X, 0, none⟩ = some (.string S) := kX2.cell 0
      have fX2 : W2.frozen? ⟨X, 0, none⟩ = false := kX2.free 0
      have h92 : W2.cell? ⟨W.heap.size, 0, none⟩ = some (.slice au xs.length cu) := k92.cell 0
      have NL := Lib.hid (fun V => Bt.num_any (xs.length : Int) (by omega) (by omega) V)
      have zL := Bt.numS_size (xs.length : Int)
      have MT : Hid (mtS xs = Bt.numS (xs.length : Int) ++ pkS xs) := Lib.hid rfl
      obtain ⟨TL, hTL⟩ : ∃ TL, TL = Bt.numS (xs.length : Int) := ⟨_, rfl⟩
      rw [← hTL] at NL zL MT
      clear hTL kX2 k92 f2 n1 n2 nu2 hx2 KXA K9 NUA HXA KK BA
      have uL : IntKind.u64.wrap (xs.length : Int) = (xs.length : Int) := IntWalk.u64_in _ (by omega)
      have q1 : ¬ (9223372036854775807 < S.size + TL.size) := by omega
      gi_wp2
      have hmx : Try.prog.follows .mixedOrders = true := mixedE
      gi_region_with_o (refine ⟨trivial, ?_⟩; gi_at_call 57; refine (CallsIn.inRound l (callsIn_wide.2 (NL.out _))).mono ?_; rintro e w3 ⟨rfl, b3⟩; have kX3 := Blk.next (w := W2.drew) KX2.out b3; have k93 := Blk.next (w := W2.drew) K92.out b3; have hX3 : w3.cell? ⟨X, 0, none⟩ = some (.string S) := kX3.cell 0; have fX3 : w3.frozen? ⟨X, 0, none⟩ = false := kX3.free 0; have h93 : w3.cell? ⟨W.heap.size, 0, none⟩ = some (.slice au xs.length cu) := k93.cell 0; have B3 := Lib.hid (bel_on (bel_dr (Below.refl W2.heap.size W2)) b3); have K3 := Lib.hid kX3; have K93 := Lib.hid k93; clear b3 kX3 k93)
      all_goals
        have KS3 := Lib.hid (K3.out.set 0 (.string (S ++ TL)))
        have OX3 := Lib.hid ((HX2.out.fr (Fr.of_below B3.out (fun _ => False)) (fun _ _ h => h)).fr (fr_set w3 X 0 (.string (S ++ TL))) (fun q hq e => by have := (own_ty HX2.out q hq).1; omega))
        have FS3 : Hid (Fr W (w3.setCell ⟨X, 0, none⟩ (.string (S ++ TL))) (fun q => q = X ∨ w2.heap.size ≤ q)) := Lib.hid (F2.out.on ((Fr.of_below B3.out (fun q => q = X ∨ w2.heap.size ≤ q)).set X 0 _ (.inl (.inl rfl))))
        have KO3 : Hid (KeepsOthers W2 (w3.setCell ⟨X, 0, none⟩ (.string (S ++ TL)))) := Lib.hid ((keeps_below B3.out).trans (KeepsOthers.setCell _ _ _))
        have K9S := Lib.hid (K93.out.fr (fr_set w3 X 0 (.string (S ++ TL))) (by omega))
        clear hX3 fX3 h93 B3 K3 K93 hX2 fX2 h92 KX2 K92 HX2 F2 q1 NL
        generalize w3.setCell ⟨X, 0, none⟩ (.string (S ++ TL)) = w4 at *
        have h94 : w4.cell? ⟨W.heap.size, 0, none⟩ = some (.slice au xs.length cu) := K9S.out.cell 0
        gi_wp2
        clear h94
        gi_loopw [41, 6] (fun i pv wr => ∃ (j : Nat) (SS : ByteArray), i = .int .i64 j ∧ j ≤ xs.length ∧ Hid (SS = S ++ TL ++ pkS (xs.take j)) ∧ Hid (Blk wr X 9 #[.string SS]) ∧ Hid (Fr W wr (fun q => q = X ∨ w2.heap.size ≤ q)) ∧ Hid (KeepsOthers W2 wr) ∧ Hid (OwnN wr w2.heap.size (.slice au xs.length cu) xs)) (fun i _ _ => xs.length - (intOf i).toNat)
        case atStart => exact ⟨0, S ++ TL, rfl, Nat.zero_le _, Lib.hid (ba_nil (S ++ TL)).symm, KS3, FS3, KO3, OX3⟩
        case round =>
          obtain ⟨j, SS, rfl, hj, hSS, hK, hF, hO, hX⟩ := hrel
          clear KS3 FS3 KO3 OX3 K9S
          by_cases hjn : j < xs.length
          · have hjI : (j : Int) < (xs.length : Int) := by omega
            obtain ⟨a5, c5, e5, nn⟩ := hX.out.nums
            simp only [Value.slice.injEq, true_and] at e5
            obtain ⟨rfl, rfl⟩ := e5
            obtain ⟨gp, op, e6, hgp, cp⟩ := nn j hjn
            subst e6
            have hy := HXAL.out xs[j] (List.getElem_mem hjn)
            have NJ := Lib.hid (fun V => Bt.num_any xs[j] (by omega) (by omega) V)
            have zJ := Bt.numS_size xs[j]
            have PK := Lib.hid (pkS_take hjn)
            have hsz : SS.size ≤ 20000 := by
              have := pkS_size (xs.take j)
              rw [List.length_take] at this
              rw [hSS.out, ba_size, ba_size]; omega
            obtain ⟨TJ, hTJ⟩ : ∃ TJ, TJ = Bt.numS xs[j] := ⟨_, rfl⟩
            rw [← hTJ] at NJ zJ PK
            clear hTJ
            have NS : Hid (SS ++ TJ = S ++ TL ++ pkS (xs.take (j + 1))) := Lib.hid (by rw [PK.out, hSS.out, ba_assoc (S ++ TL)])
            have uJ : IntKind.u64.wrap xs[j] = xs[j] := IntWalk.u64_in _ (by omega)
            have q2 : ¬ (9223372036854775807 < SS.size + TJ.size) := by omega
            have hXr : wr.cell? ⟨X, 0, none⟩ = some (.string SS) := hK.out.cell 0
            have fXr : wr.frozen? ⟨X, 0, none⟩ = false := hK.out.free 0
            generalize xs[j] = y at *
            clear nn PK hSS
            gi_wp2
            gi_region_with_o (refine ⟨trivial, ?_⟩; gi_at_call 57; refine (CallsIn.inRound l (callsIn_wide.2 (NJ.out _))).mono ?_; rintro e w5 ⟨rfl, b5⟩; have kX5 := Blk.next (w := wr.drew) hK.out b5; have hX5 : w5.cell? ⟨X, 0, none⟩ = some (.string SS) := kX5.cell 0; have fX5 : w5.frozen? ⟨X, 0, none⟩ = false := kX5.free 0; have B5 := Lib.hid (bel_on (bel_dr (Below.refl wr.heap.size wr)) b5); have K5 := Lib.hid kX5; clear b5 kX5)
            all_goals
              have hWr : w2.heap.size ≤ wr.heap.size := Nat.le_trans (Nat.le_trans HI.out.n hF.out.size) (Nat.le_refl _)
              have KS6 := Lib.hid (K5.out.set 0 (.string (SS ++ TJ)))
              have OX6 := Lib.hid ((hX.out.fr (Fr.of_below B5.out (fun _ => False)) (fun _ _ h => h)).fr (fr_set w5 X 0 (.string (SS ++ TJ))) (fun q hq e => by have := (own_ty hX.out q hq).1; omega))
              have FS6 : Hid (Fr W (w5.setCell ⟨X, 0, none⟩ (.string (SS ++ TJ))) (fun q => q = X ∨ w2.heap.size ≤ q)) := Lib.hid (hF.out.on ((Fr.of_below B5.out (fun q => q = X ∨ w2.heap.size ≤ q)).set X 0 _ (.inl (.inl rfl))))
              have KO6 : Hid (KeepsOthers W2 (w5.setCell ⟨X, 0, none⟩ (.string (SS ++ TJ)))) := Lib.hid ((hO.out.trans (keeps_below B5.out)).trans (KeepsOthers.setCell _ _ _))
              clear hX5 fX5 B5 K5 hXr fXr hK hX hF hO cp
              generalize w5.setCell ⟨X, 0, none⟩ (.string (SS ++ TJ)) = w6 at *
              gi_wp2
              go_roundw
              case rel => exact ⟨j + 1, SS ++ TJ, by go_num, by omega, NS, KS6, FS6, KO6, OX6⟩
              case measure => simp [intOf]; omega
          · obtain rfl : j = xs.length := by omega
            have hjI : ¬ (xs.length : Int) < (xs.length : Int) := by omega
            have EQ : SS = T1 ++ T2 ++ bodS ((pre ++ [(Value.slice au xs.length cu, xs)]).map (fun x : Mv => x.2)) := by
              rw [NXT.out, MT.out, hSS.out, List.take_of_length_le (Nat.le_refl _), ba_assoc]
            have K7 := hK.out
            rw [EQ] at K7
            have B7 := HI.out.b.trans (hF.out.below (B := W0.heap.size) (fun q h => by rcases h with rfl | h <;> omega) HI.out.b.size)
            have FIN : Hid (KeepsOthers W2 wr ∧ Fr W wr (fun q => q = X ∨ w2.heap.size ≤ q) ∧ TxI W0 X w2.heap.size (T1 ++ T2) (pre ++ [(Value.slice au xs.length cu, xs)]) wr) := Lib.hid ⟨hO.out, hF.out, K7, B7, Nat.le_trans HI.out.n hF.out.size⟩
            clear K7 B7 EQ hSS hK hF hO hX
            gi_wp2
            exact FIN.out
    case done =>
      intro ms W hS hI hD
      have kX3 := hI.box
      rw [hS, ← HT.out] at kX3
      have hz : W.cell? ⟨X, 0, none⟩ = some (.string (txtS base LL)) := kX3.cell 0
      have HD := Lib.hid hD
      have HB := Lib.hid (hI.b.trans ((fr_putObj W w2.heap.size (.deferred none)).below (B := W0.heap.size) (fun q e => by omega) hI.b.size))
      clear hD hI hS kX3 HY HI0 HSH HNN HT
      obtain ⟨E, hE⟩ : ∃ E, E = txtS base LL := ⟨_, rfl⟩
      rw [← hE] at hz
      have HE := Lib.hid hE
      clear hE
      go_wp2_with fail
      refine ⟨by simp, .inl ⟨_, _, rfl, run_takeDeferred HD.out, ?_⟩⟩
      refine ⟨_, (by simp [results, Try.results29, go_sem]; try rfl), ?_⟩
      exact ⟨by rw [HE.out], HB.out⟩
set_option maxHeartbeats 16000000 in
set_option maxRecDepth 100000 in
theorem text_nil (w : World) : Calls Try.prog 29 #[.pointer none] w fun e w' => e = .returned (.string (txtS 0 [])) ∧ Below w.heap.size w w' := by
  have NEW := Lib.hid (new_any w)
  have ok : BOk 0 [] := ⟨by decide, by decide, by decide⟩
  have sh : Shr [] := fun _ h => by simp at h
  obtain ⟨base, hbase⟩ : ∃ b : Int, b = 0 := ⟨_, rfl⟩
  obtain ⟨LL, hLL⟩ : ∃ l : List (List Int), l = [] := ⟨_, rfl⟩
  rw [← hbase, ← hLL] at ok ⊢
  rw [← hbase, ← hLL] at NEW
  rw [← hLL] at sh
  clear hbase hLL
  have o0 := ok.b0
  have o1 := ok.b1
  have o2 := ok.n
  have N1 := Lib.hid (fun W => Bt.num_any base (by omega) (by omega) W)
  have N2 := Lib.hid (fun W => Bt.num_any (LL.length : Int) (by omega) (by omega) W)
  have z1 := Bt.numS_size base
  have z2 := Bt.numS_size (LL.length : Int)
  have HT : Hid (txtS base LL = Bt.numS base ++ Bt.numS (LL.length : Int) ++ bodS LL) := Lib.hid rfl
  obtain ⟨T1, hT1⟩ : ∃ T1, T1 = Bt.numS base := ⟨_, rfl⟩
  obtain ⟨T2, hT2⟩ : ∃ T2, T2 = Bt.numS (LL.length : Int) := ⟨_, rfl⟩
  rw [← hT1] at N1 z1 HT
  rw [← hT2] at N2 z2 HT
  clear hT1 hT2
  have u1 : IntKind.u64.wrap base = base := IntWalk.u64_in _ (by omega)
  have u2 : IntKind.u64.wrap (LL.length : Int) = (LL.length : Int) := IntWalk.u64_in _ (by omega)
  generalize hqt : (fun q => q = w.heap.size) = Bk at NEW
  clear hqt
  obtain ⟨t, ht⟩ : ∃ t, t = w.heap.size := ⟨_, rfl⟩
  rw [← ht] at NEW
  have HTW := Lib.hid ht
  clear ht
  refine (callsIn_wide (n := 6)).1 ?_
  refine callsIn_of_wp_marks Try.func29 rfl trivial ?_ rfl
  simp only [Try.ntmps29, List.size_toArray, List.length_cons, List.length_nil, Nat.reduceAdd, Nat.reduceSub, Array.replicate_succ, Array.replicate_zero, List.push_toArray, List.append_toArray, List.nil_append, List.cons_append]
  refine wpIn_wide.2 ?_
  go_upto_region 3 with (go_at_call 28; refine NEW.out.mono ?_; rintro e W0 ⟨rfl, hBK, bb⟩; have HBK := Lib.hid hBK; have BB : Hid (Below w.heap.size w W0) := Lib.hid (by rw [← HTW.out]; exact bb); clear bb)
  obtain ⟨v0, cs0, k0, r0, e0, -, -, hlt0⟩ := hBK
  have hcl0 := e0.1
  obtain ⟨va, vc, rfl, -, -⟩ := r0.form
  rw [hcl0] at k0
  have K0 := Lib.hid k0
  have HLT := Lib.hid hlt0
  have htW : t < W0.heap.size := k0.lt
  clear k0 r0 e0 hlt0 hcl0
  have q1 : ¬ (9223372036854775807 < T1.size + T2.size) := by omega
  have SOF : Hid (∀ w', Below W0.heap.size W0 w' → w'.cell? ⟨t, 0, none⟩ = some (.int .i64 base) ∧ w'.cell? ⟨t, 1, none⟩ = some (.slice va LL.length vc) ∧ Below W0.heap.size W0 w') := Lib.hid fun w' b => ⟨(K0.out.next b).cell 0, (K0.out.next b).cell 1, b⟩
  have S1 := SOF.out _ (bel_dr (Below.refl W0.heap.size W0))
  have hl64 : (LL.length : Int) ≤ 64 := by omega
  have c0 : W0.cell? ⟨t, 0, none⟩ = some (.int .i64 base) := K0.out.cell 0
  obtain ⟨nn, hnn⟩ : ∃ nn, nn = LL.length := ⟨_, rfl⟩
  rw [← hnn] at SOF N2 u2 K0 S1 hl64
  have HNN := Lib.hid hnn
  clear hnn
  go_cut [3] from 4 (fun s3 wx => ∃ X, s3 = .pointer (some ⟨X, 0, none⟩) ∧ Blk wx X 9 #[.string (T1 ++ T2)] ∧ W0.heap.size ≤ X ∧ Hid (Below W0.heap.size W0 wx))
  case first =>
    go_region_held3 (fun w' => w'.cell? ⟨t, 0, none⟩ = some (.int .i64 base) ∧ w'.cell? ⟨t, 1, none⟩ = some (.slice va nn vc) ∧ Below W0.heap.size W0 w')
      (first | (with_reducible exact S1) | (refine SOF.out _ ?_; (repeat (with_reducible first | assumption | exact Below.refl _ _ | refine bel_dr ?_ | refine bel_al ?_ _ | refine bel_set ?_ ?_ _ _)); all_goals (first | done | exact Nat.le_refl _ | exact f1.size | exact f2.size); done))
      (first
        | (go_at_call 57; (with_reducible refine (N1.out _).mono ?_); rintro r w1 ⟨rfl, b1⟩; have f1 : Below W0.heap.size W0 w1 := bel_on (by (repeat (with_reducible first | assumption | exact Below.refl _ _ | refine bel_dr ?_ | refine bel_al ?_ _))) b1; (first | (have kx1 := Blk.next kx2 b1; have za1 := kx1.cell 0; have zf1 := kx1.free 0) | (have kx1 := Blk.next (Blk.new _ 9 #[.string ⟨#[]⟩]) b1; have za1 := kx1.cell 0; have zf1 := kx1.free 0) | (have kx1 := Blk.next (blk_newd _ 9 #[.string ⟨#[]⟩]) b1; have za1 := kx1.cell 0; have zf1 := kx1.free 0) | skip))
        | (go_at_call 57; (with_reducible refine (N2.out _).mono ?_); rintro r w2 ⟨rfl, b2⟩; have f2 : Below W0.heap.size W0 w2 := bel_on (by (repeat (with_reducible first | assumption | exact Below.refl _ _ | refine bel_dr ?_ | refine bel_al ?_ _))) b2; (first | (have kx2 := Blk.next kx1 b2; have za2 := kx2.cell 0; have zf2 := kx2.free 0) | (have kx2 := Blk.next (Blk.new _ 9 #[.string ⟨#[]⟩]) b2; have za2 := kx2.cell 0; have zf2 := kx2.free 0) | (have kx2 := Blk.next (blk_newd _ 9 #[.string ⟨#[]⟩]) b2; have za2 := kx2.cell 0; have zf2 := kx2.free 0) | skip)))
    all_goals
      go_wp2_with fail
      go_meet
      first
        | exact ⟨_, rfl, Blk.new _ _ _, f2.size, Lib.hid (bel_al f2 _)⟩
        | exact ⟨_, rfl, Blk.new _ _ _, f1.size, Lib.hid (bel_al f1 _)⟩
        | exact ⟨_, rfl, kx2.set 0 _, Nat.le_refl _, Lib.hid (bel_set f2 (Nat.le_refl _) _ _)⟩
        | exact ⟨_, rfl, kx2.set 0 _, f1.size, Lib.hid (bel_set f2 f1.size _ _)⟩
        | exact ⟨_, rfl, kx1.set 0 _, Nat.le_refl _, Lib.hid (bel_set f1 (Nat.le_refl _) _ _)⟩
        | exact ⟨_, rfl, kx1.set 0 _, f2.size, Lib.hid (bel_set f1 f2.size _ _)⟩
  case rest =>
    obtain ⟨X, rfl, kX, hX, hBc⟩ := hcut
    obtain ⟨w2, hw2, kt2, kf2, km2, b2⟩ := boxes wc t base 64
    have hBK2 := (HBK.out.next hBc.out).next b2
    have HY := Lib.hid (yields (Fb := fun q => q = X) 5 (by decide) hBK2 ok sh.short (Int.le_refl _) (by omega) (by decide) kt2 kf2 km2 (fun q hq e => by have := HLT.out q hq; omega))
    rw [sub_all o2] at HY
    have kX2 := kX.next b2
    have hXl : X < w2.heap.size := kX2.lt
    have bW2 := bel_on hBc.out b2
    have HI0 : Hid (TxI W0 X w2.heap.size (T1 ++ T2) [] w2) := Lib.hid ⟨by rw [List.map_nil]; show Blk w2 X 9 #[.string (T1 ++ T2 ++ ⟨#[]⟩)]; rw [ba_nil]; exact kX2, bW2, Nat.le_refl _⟩
    have hwl : W0.heap.size ≤ w2.heap.size := bW2.size
    have HW2 := Lib.hid hw2
    have HSH := Lib.hid sh
    have hT12 : (T1 ++ T2).size ≤ 18 := by rw [ba_size]; omega
    clear hBK2 kX2 hw2 kt2 kf2 km2 b2 bW2 HBK sh HLT N2
    have c0c : wc.cell? ⟨t, 0, none⟩ = some (.int .i64 base) := (K0.out.next hBc.out).cell 0
    clear kX S1 SOF N1 u2 c0 q1 hBc K0 u1 z1 z2
    go_wp2_with fail
    refine ((callsIn_wide (n := 3)).1 (behind_any t base 64)).mono ?_
    rintro e w' ⟨rfl, rfl⟩
    rw [← HW2.out]
    clear HW2 c0c
    go_wp2_with fail
    refine (wpIn_wide (n := 6)).1 ?_
    refine range_law (m := 6) (by decide) rfl (Go.Proofs.enters_of Try.func81 (by kernel_rfl) rfl) HY.out rfl (TxI W0 X w2.heap.size (T1 ++ T2)) (fun s A B i nc f => i.turn hwl nc f) HI0.out ?round ?done
    case round =>
      intro l pre x W hI hx hG hlt hnc
      obtain ⟨u, xs⟩ := x
      simp only at hx
      have hmay : mayB xs = true := HSH.out xs (hG.subset (by simp))
      have hpl : (pre.map (fun x : Mv => x.2)).length ≤ 64 := by
        have := hG.length_le
        simp at this ⊢
        omega
      have hps : ∀ y ∈ pre.map (fun x : Mv => x.2), y.length ≤ 16 := fun y hy => (mayB_len (HSH.out y (hG.subset (by rw [List.map_append]; exact List.mem_append_left _ hy)))).2
      obtain ⟨S, hS⟩ : ∃ S, S = T1 ++ T2 ++ bodS (pre.map (fun x : Mv => x.2)) := ⟨_, rfl⟩
      have hSs : S.size ≤ 10000 := by
        have := bodS_size hps
        rw [hS, ba_size]; omega
      have NXT : Hid (T1 ++ T2 ++ bodS ((pre ++ [(u, xs)]).map (fun x : Mv => x.2)) = S ++ mtS xs) := Lib.hid (by
        rw [List.map_append, bodS_app, ← ba_assoc, ← hS]
        congr 1
        exact bodS_one xs)
      have hxl := mayB_len hmay
      have hxa := mayB_all hmay
      obtain ⟨au, cu, rfl, nu⟩ := hx.nums
      have HI := Lib.hid hI
      have KX1 := hI.box
      rw [← hS] at KX1
      have hXW : X < W.heap.size := KX1.lt
      obtain ⟨W1, hW1⟩ : ∃ W1, W1 = W.alloc (.cells #[.slice au xs.length cu] 70) := ⟨_, rfl⟩
      have bA : Below W.heap.size W W1 := by rw [hW1]; exact (Below.refl _ W).alloc (Nat.le_refl _) _
      have K9 := Lib.hid (show Blk W1 W.heap.size 70 #[.slice au xs.length cu] by rw [hW1]; exact Blk.new _ _ _)
      have KXA := Lib.hid (KX1.next bA)
      have NUA := Lib.hid (nu.next bA)
      have HXA := Lib.hid (hx.fr (Fr.of_below bA (fun _ => False)) (fun _ _ h => h))
      have KK := Lib.hid (show KeepsOthers W W1 by rw [hW1]; exact KeepsOthers.alloc _ _)
      have BA := Lib.hid bA
      have HW1 := Lib.hid hW1
      have HXAL := Lib.hid hxa
      clear hW1 bA KX1 nu hx hI hxa HY HI0 hps hS hG hmay
      dsimp only [encM]
      gi_wp2
      rw [← HW1.out]
      refine ⟨KK.out, ?_⟩
      intro W2 f2 n1 n2
      have kX2 := KXA.out.fr f2 (KXA.out.nc n1)
      have k92 := K9.out.fr f2 (K9.out.nc n1)
      have F2 := Lib.hid (((Fr.of_below BA.out (fun q => q = X ∨ w2.heap.size ≤ q))).on (f2.mono (fun q _ h => .inr (by omega))))
      have hx2 := HXA.out.fr f2 (own_nc HXA.out n1)
      obtain ⟨a2, c2, e2, nu2⟩ := hx2.nums
      simp only [Value.slice.injEq, true_and] at e2
      obtain ⟨rfl, rfl⟩ := e2
      have HX2 := Lib.hid hx2
      have hY2 : W.heap.size < W2.heap.size := k92.lt
      have KX2 := Lib.hid kX2
      have K92 := Lib.hid k92
      have hX2 : W2.cell? ⟨X, 0, none⟩ = some (.string S) := kX2.cell 0
      have fX2 : W2.frozen? ⟨X, 0, none⟩ = false := kX2.free 0
      have h92 : W2.cell? ⟨W.heap.size, 0, none⟩ = some (.slice au xs.length cu) := k92.cell 0
      have NL := Lib.hid (fun V => Bt.num_any (xs.length : Int) (by omega) (by omega) V)
      have zL := Bt.numS_size (xs.length : Int)
      have MT : Hid (mtS xs = Bt.numS (xs.length : Int) ++ pkS xs) := Lib.hid rfl
      obtain ⟨TL, hTL⟩ : ∃ TL, TL = Bt.numS (xs.length : Int) := ⟨_, rfl⟩
      rw [← hTL] at NL zL MT
      clear hTL kX2 k92 f2 n1 n2 nu2 hx2 KXA K9 NUA HXA KK BA
      have uL : IntKind.u64.wrap (xs.length : Int) = (xs.length : Int) := IntWalk.u64_in _ (by omega)
      have q1 : ¬ (9223372036854775807 < S.size + TL.size) := by omega
      gi_wp2
      have hmx : Try.prog.follows .mixedOrders = true := mixedE
      gi_region_with_o (refine ⟨trivial, ?_⟩; gi_at_call 57; refine (CallsIn.inRound l (callsIn_wide.2 (NL.out _))).mono ?_; rintro e w3 ⟨rfl, b3⟩; have kX3 := Blk.next (w := W2.drew) KX2.out b3; have k93 := Blk.next (w := W2.drew) K92.out b3; have hX3 : w3.cell? ⟨X, 0, none⟩ = some (.string S) := kX3.cell 0; have fX3 : w3.frozen? ⟨X, 0, none⟩ = false := kX3.free 0; have h93 : w3.cell? ⟨W.heap.size, 0, none⟩ = some (.slice au xs.length cu) := k93.cell 0; have B3 := Lib.hid (bel_on (bel_dr (Below.refl W2.heap.size W2)) b3); have K3 := Lib.hid kX3; have K93 := Lib.hid k93; clear b3 kX3 k93)
      all_goals
        have KS3 := Lib.hid (K3.out.set 0 (.string (S ++ TL)))
        have OX3 := Lib.hid ((HX2.out.fr (Fr.of_below B3.out (fun _ => False)) (fun _ _ h => h)).fr (fr_set w3 X 0 (.string (S ++ TL))) (fun q hq e => by have := (own_ty HX2.out q hq).1; omega))
        have FS3 : Hid (Fr W (w3.setCell ⟨X, 0, none⟩ (.string (S ++ TL))) (fun q => q = X ∨ w2.heap.size ≤ q)) := Lib.hid (F2.out.on ((Fr.of_below B3.out (fun q => q = X ∨ w2.heap.size ≤ q)).set X 0 _ (.inl (.inl rfl))))
        have KO3 : Hid (KeepsOthers W2 (w3.setCell ⟨X, 0, none⟩ (.string (S ++ TL)))) := Lib.hid ((keeps_below B3.out).trans (KeepsOthers.setCell _ _ _))
        have K9S := Lib.hid (K93.out.fr (fr_set w3 X 0 (.string (S ++ TL))) (by omega))
        clear hX3 fX3 h93 B3 K3 K93 hX2 fX2 h92 KX2 K92 HX2 F2 q1 NL
        generalize w3.setCell ⟨X, 0, none⟩ (.string (S ++ TL)) = w4 at *
        have h94 : w4.cell? ⟨W.heap.size, 0, none⟩ = some (.slice au xs.length cu) := K9S.out.cell 0
        gi_wp2
        clear h94
        gi_loopw [41, 6] (fun i pv wr => ∃ (j : Nat) (SS : ByteArray), i = .int .i64 j ∧ j ≤ xs.length ∧ Hid (SS = S ++ TL ++ pkS (xs.take j)) ∧ Hid (Blk wr X 9 #[.string SS]) ∧ Hid (Fr W wr (fun q => q = X ∨ w2.heap.size ≤ q)) ∧ Hid (KeepsOthers W2 wr) ∧ Hid (OwnN wr w2.heap.size (.slice au xs.length cu) xs)) (fun i _ _ => xs.length - (intOf i).toNat)
        case atStart => exact ⟨0, S ++ TL, rfl, Nat.zero_le _, Lib.hid (ba_nil (S ++ TL)).symm, KS3, FS3, KO3, OX3⟩
        case round =>
          obtain ⟨j, SS, rfl, hj, hSS, hK, hF, hO, hX⟩ := hrel
          clear KS3 FS3 KO3 OX3 K9S
          by_cases hjn : j < xs.length
          · have hjI : (j : Int) < (xs.length : Int) := by omega
            obtain ⟨a5, c5, e5, nn⟩ := hX.out.nums
            simp only [Value.slice.injEq, true_and] at e5
            obtain ⟨rfl, rfl⟩ := e5
            obtain ⟨gp, op, e6, hgp, cp⟩ := nn j hjn
            subst e6
            have hy := HXAL.out xs[j] (List.getElem_mem hjn)
            have NJ := Lib.hid (fun V => Bt.num_any xs[j] (by omega) (by omega) V)
            have zJ := Bt.numS_size xs[j]
            have PK := Lib.hid (pkS_take hjn)
            have hsz : SS.size ≤ 20000 := by
              have := pkS_size (xs.take j)
              rw [List.length_take] at this
              rw [hSS.out, ba_size, ba_size]; omega
            obtain ⟨TJ, hTJ⟩ : ∃ TJ, TJ = Bt.numS xs[j] := ⟨_, rfl⟩
            rw [← hTJ] at NJ zJ PK
            clear hTJ
            have NS : Hid (SS ++ TJ = S ++ TL ++ pkS (xs.take (j + 1))) := Lib.hid (by rw [PK.out, hSS.out, ba_assoc (S ++ TL)])
            have uJ : IntKind.u64.wrap xs[j] = xs[j] := IntWalk.u64_in _ (by omega)
            have q2 : ¬ (9223372036854775807 < SS.size + TJ.size) := by omega
            have hXr : wr.cell? ⟨X, 0, none⟩ = some (.string SS) := hK.out.cell 0
            have fXr : wr.frozen? ⟨X, 0, none⟩ = false := hK.out.free 0
            generalize xs[j] = y at *
            clear nn PK hSS
            gi_wp2
            gi_region_with_o (refine ⟨trivial, ?_⟩; gi_at_call 57; refine (CallsIn.inRound l (callsIn_wide.2 (NJ.out _))).mono ?_; rintro e w5 ⟨rfl, b5⟩; have kX5 := Blk.next (w := wr.drew) hK.out b5; have hX5 : w5.cell? ⟨X, 0, none⟩ = some (.string SS) := kX5.cell 0; have fX5 : w5.frozen? ⟨X, 0, none⟩ = false := kX5.free 0; have B5 := Lib.hid (bel_on (bel_dr (Below.refl wr.heap.size wr)) b5); have K5 := Lib.hid kX5; clear b5 kX5)
            all_goals
              have hWr : w2.heap.size ≤ wr.heap.size := Nat.le_trans (Nat.le_trans HI.out.n hF.out.size) (Nat.le_refl _)
              have KS6 := Lib.hid (K5.out.set 0 (.string (SS ++ TJ)))
              have OX6 := Lib.hid ((hX.out.fr (Fr.of_below B5.out (fun _ => False)) (fun _ _ h => h)).fr (fr_set w5 X 0 (.string (SS ++ TJ))) (fun q hq e => by have := (own_ty hX.out q hq).1; omega))
              have FS6 : Hid (Fr W (w5.setCell ⟨X, 0, none⟩ (.string (SS ++ TJ))) (fun q => q = X ∨ w2.heap.size ≤ q)) := Lib.hid (hF.out.on ((Fr.of_below B5.out (fun q => q = X ∨ w2.heap.size ≤ q)).set X 0 _ (.inl (.inl rfl))))
              have KO6 : Hid (KeepsOthers W2 (w5.setCell ⟨X, 0, none⟩ (.string (SS ++ TJ)))) := Lib.hid ((hO.out.trans (keeps_below B5.out)).trans (KeepsOthers.setCell _ _ _))
              clear hX5 fX5 B5 K5 hXr fXr hK hX hF hO cp
              generalize w5.setCell ⟨X, 0, none⟩ (.string (SS ++ TJ)) = w6 at *
              gi_wp2
              go_roundw
              case rel => exact ⟨j + 1, SS ++ TJ, by go_num, by omega, NS, KS6, FS6, KO6, OX6⟩
              case measure => simp [intOf]; omega
          · obtain rfl : j = xs.length := by omega
            have hjI : ¬ (xs.length : Int) < (xs.length : Int) := by omega
            have EQ : SS = T1 ++ T2 ++ bodS ((pre ++ [(Value.slice au xs.length cu, xs)]).map (fun x : Mv => x.2)) := by
              rw [NXT.out, MT.out, hSS.out, List.take_of_length_le (Nat.le_refl _), ba_assoc]
            have K7 := hK.out
            rw [EQ] at K7
            have B7 := HI.out.b.trans (hF.out.below (B := W0.heap.size) (fun q h => by rcases h with rfl | h <;> omega) HI.out.b.size)
            have FIN : Hid (KeepsOthers W2 wr ∧ Fr W wr (fun q => q = X ∨ w2.heap.size ≤ q) ∧ TxI W0 X w2.heap.size (T1 ++ T2) (pre ++ [(Value.slice au xs.length cu, xs)]) wr) := Lib.hid ⟨hO.out, hF.out, K7, B7, Nat.le_trans HI.out.n hF.out.size⟩
            clear K7 B7 EQ hSS hK hF hO hX
            gi_wp2
            exact FIN.out
    case done =>
      intro ms W hS hI hD
      have kX3 := hI.box
      rw [hS, ← HT.out] at kX3
      have hz : W.cell? ⟨X, 0, none⟩ = some (.string (txtS base LL)) := kX3.cell 0
      have HD := Lib.hid hD
      have HB := Lib.hid (hI.b.trans ((fr_putObj W w2.heap.size (.deferred none)).below (B := W0.heap.size) (fun q e => by omega) hI.b.size))
      clear hD hI hS kX3 HY HI0 HSH HNN HT
      obtain ⟨E, hE⟩ : ∃ E, E = txtS base LL := ⟨_, rfl⟩
      rw [← hE] at hz
      have HE := Lib.hid hE
      clear hE
      go_wp2_with fail
      refine ⟨by simp, .inl ⟨_, _, rfl, run_takeDeferred HD.out, ?_⟩⟩
      refine ⟨_, (by simp [results, Try.results29, go_sem]; try rfl), ?_⟩
      exact ⟨by rw [HE.out], BB.out.trans (HB.out.mono BB.out.size)⟩
end Go.Proofs.Ytbghjcfepjbppaa.Bk
/-
  A READER AND THREE NODES' BOOKS: what a reader got, plainly; what lies in memory.
-/
namespace Go.Proofs.Ytbghjcfepjbppaa
open Go.RowKit
def Seqd : Int → List (Int × List Int) → Prop
  | _, [] => True
  | a, x :: l => a ≤ x.1 ∧ x.2 = [x.1] ∧ Seqd (x.1 + 1) l
def lst : Int → List (Int × List Int) → Int
  | a, [] => a
  | _, x :: l => lst (x.1 + 1) l
theorem seqd_mono : ∀ {a b : Int} {l : List (Int × List Int)}, b ≤ a → Seqd a l → Seqd b l
  | _, _, [], _, _ => trivial
  | _, _, _ :: _, h, ⟨h1, h2, h3⟩ => ⟨Int.le_trans h h1, h2, h3⟩
theorem lst_app : ∀ (a : Int) (l r : List (Int × List Int)), lst a (l ++ r) = lst (lst a l) r
  | _, [], _ => rfl
  | _, x :: l, r => lst_app (x.1 + 1) l r
theorem seqd_app : ∀ {a : Int} {l r : List (Int × List Int)}, Seqd a l → Seqd (lst a l) r → Seqd a (l ++ r)
  | _, [], _, _, h => h
  | _, _ :: _, _, ⟨h1, h2, h3⟩, h => ⟨h1, h2, seqd_app h3 h⟩
theorem seqd_len : ∀ {a : Int} {l : List (Int × List Int)}, Seqd a l → a + l.length ≤ lst a l
  | a, [], _ => by show a + ((0 : Nat) : Int) ≤ a; omega
  | a, x :: l, ⟨h1, _, h3⟩ => by
    have := seqd_len h3
    show a + ((l.length + 1 : Nat) : Int) ≤ lst (x.1 + 1) l
    omega
theorem lst_nil {l : List (Int × List Int)} (a b : Int) (h : l ≠ []) : lst a l = lst b l := by
  cases l with
  | nil => exact absurd rfl h
  | cons x l => rfl
theorem lst_base : ∀ {a b : Int} {l : List (Int × List Int)}, a ≤ b → Seqd b l → lst a l ≤ lst b l
  | _, _, [], h, _ => h
  | _, _, _ :: _, _, _ => Int.le_refl _
theorem seqd_at : ∀ {a : Int} {l : List (Int × List Int)}, Seqd a l → ∀ k (h : k < l.length), lst a (l.take k) ≤ l[k].1 ∧ l[k].2 = [l[k].1] ∧ lst a (l.take (k + 1)) = l[k].1 + 1
  | _, _ :: _, ⟨h1, h2, _⟩, 0, _ => ⟨h1, h2, rfl⟩
  | _, x :: l, ⟨_, _, h3⟩, k + 1, h => seqd_at h3 k (by simpa using h)
theorem seqd_take : ∀ {a : Int} {l : List (Int × List Int)}, Seqd a l → ∀ k, Seqd a (l.take k)
  | _, [], _, _ => by simp [Seqd]
  | _, _ :: _, _, 0 => trivial
  | _, _ :: _, ⟨h1, h2, h3⟩, k + 1 => ⟨h1, h2, seqd_take h3 k⟩
theorem seqd_drop : ∀ {a : Int} {l : List (Int × List Int)}, Seqd a l → ∀ k, Seqd (lst a (l.take k)) (l.drop k)
  | _, [], _, _ => by simp [Seqd]
  | _, _ :: _, h, 0 => h
  | _, _ :: _, ⟨_, _, h3⟩, k + 1 => seqd_drop h3 k
theorem take_ge {l : List (Int × List Int)} (h : Seqd 0 l) (k : Nat) (hk : k ≤ l.length) : (k : Int) ≤ lst 0 (l.take k) := by
  have := seqd_len (seqd_take h k)
  rw [List.length_take] at this
  omega
theorem take_le {l : List (Int × List Int)} (h : Seqd 0 l) (k : Nat) : lst 0 (l.take k) ≤ lst 0 l := by
  have h1 := lst_app 0 (l.take k) (l.drop k)
  rw [List.take_append_drop] at h1
  rw [h1]
  have := seqd_len (seqd_drop h k)
  omega
theorem seqd_one : ∀ {a : Int} {l : List (Int × List Int)}, Seqd a l → ∀ x ∈ l, x.2.length ≤ 17592186043904
  | _, y :: _, ⟨_, h2, h3⟩, x, hx => by
    rcases List.mem_cons.1 hx with rfl | hx
    · rw [h2]; simp
    · exact seqd_one h3 x hx
theorem rowI_succ (c : Int) (m : Nat) : Bk.rowI c (m + 1) = [c] :: Bk.rowI (c + 1) m := by
  apply List.ext_getElem
  · simp [Bk.rowI]
  · intro i h1 h2
    rw [Bk.rowI_get]
    cases i with
    | zero => simp
    | succ i => rw [List.getElem_cons_succ, Bk.rowI_get]; congr 1; omega
theorem numb_row : ∀ (m : Nat) (c : Int), Seqd c (numb c (Bk.rowI c m)) ∧ lst c (numb c (Bk.rowI c m)) = c + m
  | 0, c => ⟨trivial, by show c = c + ((0 : Nat) : Int); omega⟩
  | m + 1, c => by
    rw [rowI_succ]
    obtain ⟨h1, h2⟩ := numb_row m (c + 1)
    exact ⟨⟨Int.le_refl _, rfl, h1⟩, by show lst (c + 1) (numb (c + 1) (Bk.rowI (c + 1) m)) = _; rw [h2]; omega⟩
theorem sub_row {base at_ most : Int} {n : Nat} (h : base ≤ at_) : ∃ k : Nat, Bk.sub base (Bk.rowI base n) at_ most = Bk.rowI at_ k ∧ (at_ ≤ base + n → at_ + k ≤ base + n) ∧ (base + n < at_ → k = 0) := by
  refine ⟨min most.toNat (n - (at_ - base).toNat), ?_, ?_, ?_⟩
  · unfold Bk.sub
    rw [Bk.rowI_drop, Bk.rowI_take, show base + (((at_ - base).toNat : Nat) : Int) = at_ by omega]
  · intro h1; omega
  · intro h1; omega
/-- what a reader of three nodes knows, where so many matches came -/
structure RI (s : RS) (tot : Nat) : Prop where
  tt : 0 ≤ s.to ∧ s.to ≤ 2
  gone : 0 ≤ s.gone
  at_ : s.at_ = s.LG.length + s.gone
  le : s.at_ ≤ tot
  sq : Seqd 0 s.LG
  ls : lst 0 s.LG ≤ s.at_
theorem RI.ok {s : RS} {tot : Nat} (h : RI s tot) (ht : tot ≤ 400) : s.Ok 400 := by
  have h1 := h.tt
  have h2 := h.gone
  have h3 := h.at_
  have h4 := h.le
  exact ⟨by omega, by omega, by omega, by omega, seqd_one h.sq⟩
theorem RI.more {s : RS} {tot : Nat} (h : RI s tot) : RI s (tot + 1) := ⟨h.tt, h.gone, h.at_, by have := h.le; omega, h.sq, h.ls⟩
theorem RI.late {s : RS} {tot : Nat} (h : RI s tot) : RI ⟨nextN s.to 3, s.at_, s.gone, s.LG⟩ tot := by
  have := h.tt
  exact ⟨by show 0 ≤ nextN s.to 3 ∧ nextN s.to 3 ≤ 2; unfold nextN; split <;> omega, h.gone, h.at_, h.le, h.sq, h.ls⟩
theorem RI.read {s : RS} {tot : Nat} (h : RI s tot) {base most : Int} {n : Nat} (hb : base ≤ s.at_) (hn : base + n ≤ tot) :
    RI (s.told 3 (Bk.sub base (Bk.rowI base n) s.at_ most) (s.at_ + (Bk.sub base (Bk.rowI base n) s.at_ most).length) 0) tot := by
  obtain ⟨k, hk, k1, k2⟩ := sub_row (most := most) (n := n) hb
  have h1 := h.le
  have h2 := h.at_
  rw [hk, Bk.rowI_len]
  unfold RS.told
  rw [if_pos ⟨rfl, by omega, by rw [Bk.rowI_len]; omega⟩]
  obtain ⟨q1, q2⟩ := numb_row k s.at_
  refine ⟨h.tt, h.gone, ?_, ?_, seqd_app h.sq (seqd_mono h.ls q1), ?_⟩
  · show s.at_ + (k : Int) = ((s.LG ++ numb s.at_ (Bk.rowI s.at_ k)).length : Int) + s.gone
    rw [List.length_append, numb_len, Bk.rowI_len]
    omega
  · show s.at_ + (k : Int) ≤ tot
    by_cases hc : s.at_ ≤ base + n
    · have := k1 hc; omega
    · have := k2 (by omega); omega
  · show lst 0 (s.LG ++ numb s.at_ (Bk.rowI s.at_ k)) ≤ s.at_ + k
    rw [lst_app, ← q2]
    exact lst_base h.ls q1
theorem RI.skip {s : RS} {tot : Nat} (h : RI s tot) {base : Int} (hb : s.at_ < base) (hn : base ≤ tot) : RI (s.told 3 [] base 180) tot := by
  have h2 := h.at_
  have h3 := h.gone
  have h4 := h.ls
  unfold RS.told
  rw [if_neg (by omega), if_pos ⟨rfl, hb⟩]
  exact ⟨h.tt, by show 0 ≤ s.gone + (base - s.at_); omega, by show base = (s.LG.length : Int) + (s.gone + (base - s.at_)); omega, hn, h.sq, by show lst 0 s.LG ≤ base; omega⟩
/-- a node's text -/
def NodeOk (tot : Nat) (S : ByteArray) : Prop := ∃ b k, S = Bk.txtS b (Bk.rowI b k) ∧ 0 ≤ b ∧ b + (k : Int) ≤ tot ∧ k ≤ 64
theorem NodeOk.more {tot : Nat} {S : ByteArray} (h : NodeOk tot S) : NodeOk (tot + 1) S := by
  obtain ⟨b, k, e, h1, h2, h3⟩ := h
  exact ⟨b, k, e, h1, by omega, h3⟩
structure WS (s : RS) (tot : Nat) (base : Int) (n : Nat) (S0 S1 S2 : ByteArray) : Prop where
  ri : RI s tot
  b0 : 0 ≤ base
  bn : base + n = tot
  n : n ≤ 64
  s0 : NodeOk tot S0
  s1 : NodeOk tot S1
  s2 : NodeOk tot S2
theorem row_ok {base : Int} {n : Nat} (h0 : 0 ≤ base) (hn : n ≤ 64) (hm : base + (n : Int) ≤ 1000) : Bk.BOk base (Bk.rowI base n) ∧ Bk.Shr (Bk.rowI base n) := by
  refine ⟨⟨h0, by rw [Bk.rowI_len]; omega, by rw [Bk.rowI_len]; exact hn⟩, fun xs hx => ?_⟩
  obtain ⟨i, hi, rfl⟩ := List.getElem_of_mem hx
  rw [Bk.rowI_get]
  rw [Bk.rowI_len] at hi
  exact Bk.may_one (by omega) (by omega)
theorem row_load {base : Int} {n : Nat} (h0 : 0 ≤ base) (hn : n ≤ 64) (hm : base + (n : Int) ≤ 1000) : Bk.pLoad (Bk.txtS base (Bk.rowI base n)) = some (base, Bk.rowI base n) :=
  Bk.pLoad_put (row_ok h0 hn hm).1 (row_ok h0 hn hm).2
theorem row_size {base : Int} {n : Nat} (hn : n ≤ 64) : (Bk.txtS base (Bk.rowI base n)).size ≤ 100000 := by
  unfold Bk.txtS
  rw [Bk.ba_size, Bk.ba_size]
  have h1 := Bt.numS_size base
  have h2 := Bt.numS_size ((Bk.rowI base n).length : Int)
  have h3 := Bk.bodS_size (L := Bk.rowI base n) (fun x hx => by
    obtain ⟨i, hi, rfl⟩ := List.getElem_of_mem hx
    rw [Bk.rowI_get]; simp)
  rw [Bk.rowI_len] at h3
  omega
/-- a book is loaded from a text -/
theorem load_row {base : Int} {n : Nat} (h0 : 0 ≤ base) (hn : n ≤ 64) (hm : base + (n : Int) ≤ 1000) (w : World) : Calls Try.prog 30 #[.string (Bk.txtS base (Bk.rowI base n))] w fun e w' => ∃ t, e = .returned (.tuple #[.pointer (some ⟨t, 0, none⟩), .int .i64 0]) ∧ Bk.Mine w w.heap.size t base (Bk.rowI base n) w' := by
  refine (Bk.load_any (by have := row_size (base := base) hn; omega) w).mono ?_
  rintro e w' (⟨h1, _, _⟩ | ⟨b, LL, t, h1, h2, h3⟩)
  · rw [row_load h0 hn hm] at h1; cases h1
  · rw [row_load h0 hn hm] at h1
    cases h1
    exact ⟨t, h2, h3⟩
structure WhA (W0 w : World) (U : Nat → Prop) (t nb : Nat) (s : RS) (most : Int) (S0 S1 S2 : ByteArray) (av : Value) (cs : List Value) (tot : Nat) : Prop where
  rd : RdM w U t 3 s.to ⟨#[112]⟩ most s.at_ s.gone s.LG
  nd : Blk w nb 79 #[.string S0, .string S1, .string S2]
  al : w.ownsRow W0.heap.size 9 1 av tot cs
  un : ¬ U nb
  ua : ∀ q, av.ownBlock = some q → ¬ U q ∧ q ≠ nb
  ul : ∀ q, U q → W0.heap.size ≤ q ∧ q < w.heap.size
  nl : W0.heap.size ≤ nb
  b : Below W0.heap.size W0 w
section
variable {W0 w w' : World} {U : Nat → Prop} {t nb : Nat} {s s' : RS} {most : Int} {S0 S1 S2 : ByteArray} {av : Value} {cs : List Value} {tot : Nat}
theorem WhA.next (h : WhA W0 w U t nb s most S0 S1 S2 av cs tot) (b : Below w.heap.size w w') : WhA W0 w' U t nb s most S0 S1 S2 av cs tot :=
  ⟨h.rd.next b, h.nd.below b, Fr.own h.al (Fr.of_below b (fun _ => False)) (fun _ _ h => h), h.un, h.ua, fun q hq => ⟨(h.ul q hq).1, Nat.lt_of_lt_of_le (h.ul q hq).2 b.size⟩, h.nl, h.b.trans (b.mono h.b.size)⟩
/-- a node hears of all -/
theorem WhA.node (h : WhA W0 w U t nb s most S0 S1 S2 av cs tot) (i : Nat) (S : ByteArray) {T0 T1 T2 : ByteArray} (e : (#[Value.string S0, .string S1, .string S2]).setIfInBounds i (.string S) = #[.string T0, .string T1, .string T2]) : WhA W0 (w.setCell ⟨nb, i, none⟩ (.string S)) U t nb s most T0 T1 T2 av cs tot := by
  have f : Fr w (w.setCell ⟨nb, i, none⟩ (.string S)) (fun q => q = nb) := fr_set w nb i _
  refine ⟨h.rd.fr f (fun q hq => hq ▸ h.un), e ▸ h.nd.set i _, Fr.own h.al f (fun q hq e => (h.ua q hq).2 e), h.un, h.ua, fun q hq => ⟨(h.ul q hq).1, Nat.lt_of_lt_of_le (h.ul q hq).2 f.size⟩, h.nl, h.b.trans (f.below (fun q hq => hq ▸ h.nl) h.b.size)⟩
/-- one more match came -/
theorem WhA.app {w4 : World} {g cap : Nat} {cs' : List Value} (o : Obj) (h : WhA W0 w U t nb s most S0 S1 S2 av cs tot) (ho : w4.ownsRow W0.heap.size 9 1 (.slice (some ⟨g, 0, none⟩) (tot + 1) cap) (tot + 1) cs') (hg : (w.alloc o).grownBy w4 av.ownBlock) (hat : av.ownBlock = some g ∨ g = (w.alloc o).heap.size) :
    WhA W0 w4 U t nb s most S0 S1 S2 (.slice (some ⟨g, 0, none⟩) (tot + 1) cap) cs' (tot + 1) := by
  have f : Fr w w4 (fun q => av.ownBlock = some q) := ((Fr.refl w (fun q => av.ownBlock = some q)).al o).on ((Fr.of_grown hg).mono (fun q _ h => h.symm))
  have hs : (w.alloc o).heap.size = w.heap.size + 1 := by simp
  have lo : ∀ q, av.ownBlock = some q → W0.heap.size ≤ q := fun q hq => (World.ownsRow.lt h.al q hq).1
  have hnl := h.nd.lt
  refine ⟨h.rd.fr f (fun q hq => (h.ua q hq).1), h.nd.fr f (fun hq => (h.ua _ hq).2 rfl), ho, h.un, fun q hq => ?_, fun q hq => ⟨(h.ul q hq).1, Nat.lt_of_lt_of_le (h.ul q hq).2 f.size⟩, h.nl, h.b.trans (f.below lo h.b.size)⟩
  have hgq : g = q := by simpa [Value.ownBlock] using hq
  subst hgq
  rcases hat with e | e
  · exact h.ua g e
  · exact ⟨fun hu => by have := (h.ul g hu).2; omega, by omega⟩
/-- the reader changes -/
theorem WhA.reader (h : WhA W0 w U t nb s most S0 S1 S2 av cs tot) (k : Rch w U t 3 s'.to ⟨#[112]⟩ most s'.at_ s'.gone s'.LG w') : (∃ U', WhA W0 w' U' t nb s' most S0 S1 S2 av cs tot) ∧ Fr w w' U := by
  obtain ⟨U', k, f, u⟩ := k
  have hnl := h.nd.lt
  refine ⟨⟨U', k, h.nd.fr f h.un, Fr.own h.al f (fun q hq => (h.ua q hq).1), fun hu => ?_, fun q hq => ⟨fun hu => ?_, (h.ua q hq).2⟩, fun q hq => ?_, h.nl, h.b.trans (f.below (fun q hq => (h.ul q hq).1) h.b.size)⟩, f⟩
  · rcases u nb hu with h1 | h1
    · exact h.un h1
    · omega
  · have := (World.ownsRow.lt h.al q hq).2
    rcases u q hu with h1 | h1
    · exact (h.ua q hq).1 h1
    · omega
  · have hlt : q < w'.heap.size := by
      obtain ⟨gv, cs, k⟩ := k
      exact k.ul q hq
    rcases u q hq with h1 | h1
    · exact ⟨(h.ul q h1).1, hlt⟩
    · exact ⟨by have := h.b.size; omega, hlt⟩
/-- a book off the reader stays -/
theorem book_off {B : Nat} {w0 : World} {tb : Nat} {base : Int} {LL : List (List Int)} {P : Nat → Prop} (h : Bk.Mine w0 B tb base LL w) (f : Fr w w' P) (hP : ∀ q, P q → q < B) : ∃ K, Bk.BookAt w' K tb base LL ∧ Bk.BOk base LL ∧ Bk.Shr LL := by
  obtain ⟨K, hb, ok, sh, hB, _, _⟩ := h
  exact ⟨K, hb.fr ⟨f.os, f.tape, f.output, f.size, f.block⟩ (fun q hq hp => by have := hB q hq; have := hP q hp; omega), ok, sh⟩
/-- a node that is asked -/
theorem node_cell {n0 : Nat} {i : Nat} (hi : i < 3) (h0 : NodeOk n0 S0) (h1 : NodeOk n0 S1) (h2 : NodeOk n0 S2) : ∃ S, NodeOk n0 S ∧ (#[Value.string S0, .string S1, .string S2])[i]? = some (.string S) := by
  match i, hi with
  | 0, _ => exact ⟨S0, h0, rfl⟩
  | 1, _ => exact ⟨S1, h1, rfl⟩
  | 2, _ => exact ⟨S2, h2, rfl⟩
theorem WhA.hear (h : WhA W0 w U t nb s most S0 S1 S2 av cs tot) {n0 : Nat} {i : Nat} (hi : i < 3) {S : ByteArray} (hS : NodeOk n0 S) (h0 : NodeOk n0 S0) (h1 : NodeOk n0 S1) (h2 : NodeOk n0 S2) :
    ∃ T0 T1 T2, NodeOk n0 T0 ∧ NodeOk n0 T1 ∧ NodeOk n0 T2 ∧ WhA W0 (w.setCell ⟨nb, i, none⟩ (.string S)) U t nb s most T0 T1 T2 av cs tot := by
  match i, hi with
  | 0, _ => exact ⟨S, S1, S2, hS, h1, h2, h.node 0 S rfl⟩
  | 1, _ => exact ⟨S0, S, S2, h0, hS, h2, h.node 1 S rfl⟩
  | 2, _ => exact ⟨S0, S1, S, h0, h1, hS, h.node 2 S rfl⟩
/-- the book behind Put, Forget -/
theorem row_put {base : Int} {k : Nat} (h0 : 0 ≤ base) (hk : k ≤ 64) (hm : base + (k : Int) ≤ 1000) : ∃ b' k', Bk.ptS base (Bk.rowI base k) [base + (k : Int)] = (b', Bk.rowI b' k') ∧ 0 ≤ b' ∧ b' + (k' : Int) = base + k + 1 ∧ k' ≤ 64 := by
  have := (Bk.pt_row h0 hk (by omega)).2
  by_cases h64 : k = 64
  · rw [if_pos h64] at this
    exact ⟨base + 1, 64, this, by omega, by omega, by decide⟩
  · rw [if_neg h64] at this
    exact ⟨base, k + 1, this, h0, by omega, by omega⟩
theorem row_forget {base : Int} {k : Nat} (h0 : 0 ≤ base) (hk : k ≤ 64) (x : Int) : ∃ b' k', Bk.fgS base (Bk.rowI base k) x = (b', Bk.rowI b' k') ∧ 0 ≤ b' ∧ b' + (k' : Int) = base + k ∧ k' ≤ 64 := by
  unfold Bk.fgS
  rw [Bk.rowI_len]
  by_cases h : x < 0 ∨ base + (k : Int) < x ∨ x ≤ base
  · rw [if_pos h]; exact ⟨base, k, rfl, h0, rfl, hk⟩
  · rw [if_neg h, Bk.rowI_drop]
    refine ⟨x, k - (x - base).toNat, ?_, by omega, by omega, by omega⟩
    rw [show base + (((x - base).toNat : Nat) : Int) = x by omega]
theorem nums_at (w : World) (m : Nat) (base : Int) (k : Nat) (h : base + (k : Int) = m) : Bk.Nums (w.alloc (.cells #[.int .i64 (m : Int)] 3)) (some ⟨w.heap.size, 0, none⟩) [base + (k : Int)] := by
  rw [h]; exact Bk.nums_one w m
end
end Go.Proofs.Ytbghjcfepjbppaa
/-
  The book: the document's Text 24.
-/
namespace Go.Proofs.Ytbghjcfepjbppaa.Bk
open Go.RowKit
end Go.Proofs.Ytbghjcfepjbppaa.Bk
/-
  The book: Rows 15, the document's Same 14 and Read 12.
-/
namespace Go.Proofs.Ytbghjcfepjbppaa.Bk
open Go.RowKit
/-- rows' cells, their numbers in the blocks D -/
def Cels (w : World) (D : Nat → Prop) (cs : List Value) (LL : List (List Int)) : Prop := cs.length = LL.length ∧ ∀ (i : Nat) (h : i < cs.length) (h2 : i < LL.length), ∃ q c, cs[i] = .slice q LL[i].length c ∧ Nums w q LL[i] ∧ ∀ p, q = some p → D p.block
section
variable {w w' : World} {D : Nat → Prop} {cs : List Value} {LL : List (List Int)}
theorem Cels.nil (w : World) (D : Nat → Prop) : Cels w D [] [] := ⟨rfl, fun i h => by simp at h⟩
theorem Cels.next (h : Cels w D cs LL) (hb : Below w.heap.size w w') : Cels w' D cs LL := ⟨h.1, fun i a b => by
  obtain ⟨q, c, e, nn, hd⟩ := h.2 i a b
  exact ⟨q, c, e, nn.next hb, hd⟩⟩
theorem Cels.snoc {q : Option Addr} {c : Nat} {xs : List Int} (h : Cels w D cs LL) (hn : Nums w q xs) (hd : ∀ p, q = some p → D p.block) : Cels w D (cs ++ [.slice q xs.length c]) (LL ++ [xs]) := ⟨by simp [h.1], fun i a b => by
  have := h.1
  rcases Nat.lt_or_ge i cs.length with hi | hi
  · rw [List.getElem_append_left hi, List.getElem_append_left (by omega)]
    exact h.2 i hi (by omega)
  · simp only [List.length_append, List.length_cons, List.length_nil] at a b
    obtain rfl : i = cs.length := by omega
    rw [List.getElem_append_right (Nat.le_refl _), List.getElem_append_right (by omega)]
    simp only [this, Nat.sub_self, List.getElem_cons_zero]
    exact ⟨q, c, rfl, hn, hd⟩⟩
theorem Cels.rws {B : Nat} {a : Option Addr} {n c : Nat} (h : Cels w D cs LL) (ho : w.ownsRow B 55 1 (.slice a n c) cs.length cs) : Rws w a LL := by
  intro i hi
  have hl := h.1
  obtain ⟨q, cq, e, nn, -⟩ := h.2 i (by omega) hi
  have h0 := ho
  rcases ho.2 with ⟨_, e3⟩ | ⟨g, cap, cur, e3, hb, hg, _⟩
  · omega
  · obtain ⟨rfl, rfl, rfl⟩ : a = some ⟨g, 0, none⟩ ∧ n = cs.length ∧ c = cap := by
      simp only [Value.slice.injEq] at e3; exact e3
    refine ⟨g, 0, q, cq, rfl, (Array.getElem?_eq_some_iff.1 hg).1, ?_, nn⟩
    rw [Nat.zero_add, h0.cellAt _ (by omega), List.getElem?_eq_getElem (by omega), e]
end
theorem OwnM.rws {w : World} {B : Nat} {a : Option Addr} {n c : Nat} {ms : List Mv} (h : OwnM w B (.slice a n c) ms) {LL : List (List Int)} (e : ms.map (fun x : Mv => x.2) = LL) : Rws w a LL := by
  intro i hi
  have hl : ms.length = LL.length := by rw [← e, List.length_map]
  have hi2 : i < ms.length := by omega
  have e2 : ms[i].2 = LL[i] := by
    have : (ms.map (fun x : Mv => x.2))[i]? = LL[i]? := by rw [e]
    rw [List.getElem?_map, List.getElem?_eq_getElem hi2, List.getElem?_eq_getElem hi] at this
    exact Option.some.inj this
  obtain ⟨q, cq, eq, nn⟩ := (h.2 ms[i] (List.getElem_mem hi2)).nums
  have h0 := h.1
  rcases h.1.2 with ⟨_, e3⟩ | ⟨g, cap, cur, e3, hb, hg, _⟩
  · omega
  · obtain ⟨rfl, rfl, rfl⟩ : a = some ⟨g, 0, none⟩ ∧ n = ms.length ∧ c = cap := by
      simp only [Value.slice.injEq] at e3; exact e3
    refine ⟨g, 0, q, cq, rfl, (Array.getElem?_eq_some_iff.1 hg).1, ?_, by rw [← e2]; exact nn⟩
    rw [Nat.zero_add, h0.cellAt _ (by omega), List.getElem?_map, List.getElem?_eq_getElem hi2, ← e2, ← eq]
    rfl
theorem news29 {W : World} {u : Value} : ∀ j x, ([u] : List Value)[j]? = some x → (W.alloc (.cells #[u] 55)).cell? ((⟨W.heap.size, 0, none⟩ : Addr).add j) = some x := by
  intro j x hj
  match j, hj with
  | 0, hj => rw [addr_add, (Blk.new W 55 #[u]).cell]; exact hj
theorem info29 : (Try.prog.info? 55).map (fun i => (i.zero, i.size, i.bytes)) = some (some (.slice none 0 0), 1, 24) := by kernel_rfl
/-- the world behind an append to a row that is owned -/
theorem app_below {w wr w3 : World} {u v : Value} {cs : List Value} {n : Nat} (hb : Below w.heap.size w wr) (ho : wr.ownsRow w.heap.size 55 1 v n cs) (hg : (wr.alloc (.cells #[u] 55)).grownBy w3 v.ownBlock) : Below w.heap.size w w3 ∧ Fr wr w3 (fun q => w.heap.size ≤ q) ∧ Fr wr w3 (fun q => v.ownBlock = some q) := by
  have bA : Below wr.heap.size wr (wr.alloc (.cells #[u] 55)) := (Below.refl _ _).alloc (Nat.le_refl _) _
  have f3 : Fr wr w3 (fun q => v.ownBlock = some q) := (Fr.of_below bA _).on ((Fr.of_grown hg).mono (fun q _ e => e.symm))
  have f4 : Fr wr w3 (fun q => w.heap.size ≤ q) := f3.mono (fun q _ e => (own_ty ho q e).1)
  exact ⟨hb.trans (f4.below (fun q h => h) hb.size), f4, f3⟩
theorem Nums.fr {w w' : World} {a : Option Addr} {xs : List Int} {P : Nat → Prop} (h : Nums w a xs) (f : Fr w w' P) (hP : ∀ p, a = some p → ¬ P p.block) : Nums w' a xs := fun i hi => by
  obtain ⟨g, o, e, hg, c⟩ := h i hi
  exact ⟨g, o, e, Nat.lt_of_lt_of_le hg f.size, by rw [World.cell?_of_block (f.block g hg (hP _ e))]; exact c⟩
theorem Cels.fr {w w' : World} {D P : Nat → Prop} {cs : List Value} {LL : List (List Int)} (h : Cels w D cs LL) (f : Fr w w' P) (hP : ∀ q, D q → ¬ P q) : Cels w' D cs LL := ⟨h.1, fun i a b => by
  obtain ⟨q, c, e, nn, hd⟩ := h.2 i a b
  exact ⟨q, c, e, nn.fr f (fun p hp => hP _ (hd p hp)), hd⟩⟩
/-- what Rows leaves -/
def Rwd (w : World) (LL : List (List Int)) (e : Ending) (w' : World) : Prop := ∃ a' c', e = .returned (.slice a' LL.length c') ∧ Rws w' a' LL ∧ Below w.heap.size w w'
set_option maxHeartbeats 8000000 in
set_option maxRecDepth 100000 in
theorem rows_any {w : World} {a : Option Addr} {LL : List (List Int)} (c : Nat) (h : Rws w a LL) (hl : LL.length ≤ 1000) :
    Calls Try.prog 20 #[.slice a LL.length c] w (Rwd w LL) := by
  have RW := Lib.hid h
  obtain ⟨i29, hi, hz0, hz1, hz2⟩ := info_parts info29
  have C0 := Lib.hid (Cels.nil w (fun q => q < w.heap.size))
  have B0 := Lib.hid (Below.refl w.heap.size w)
  have hlI : (LL.length : Int) ≤ 1000 := by omega
  have HF : Hid (∀ i (hi : i < LL.length), ∃ g o q cq, a = some ⟨g, o, none⟩ ∧ (∀ wr, Below w.heap.size w wr → wr.cell? ⟨g, o + i, none⟩ = some (.slice q LL[i].length cq)) ∧ (∀ wr, Below w.heap.size w wr → Nums wr q LL[i]) ∧ (1 ≤ LL[i].length → ∀ p, q = some p → p.block < w.heap.size)) := Lib.hid fun i hi => by
    obtain ⟨g, o, q, cq, e, hg, ck, nn⟩ := h i hi
    refine ⟨g, o, q, cq, e, fun wr b => (b.cell (p := ⟨g, _, none⟩) hg).trans ck, fun wr b => nn.next b, fun h1 p hp => ?_⟩
    obtain ⟨g2, o2, e2, hg2, -⟩ := nn 0 (by omega)
    rw [e2] at hp; cases hp; exact hg2
  clear h
  go_enter Try.func20, Try.ntmps20
  go_wp2_with fail
  go_loopw [3, 4] (fun v i wr => ∃ (j : Nat) (cs : List Value), i = .int .i64 j ∧ j ≤ LL.length ∧ Hid (cs.length = j) ∧ Hid (wr.ownsRow w.heap.size 55 1 v j cs) ∧ Hid (∀ k (hk : k < j) (hk2 : k < LL.length), ∃ q cq, cs[k]? = some (.slice q LL[k].length cq) ∧ ∀ w2, Below w.heap.size w w2 → Nums w2 q LL[k]) ∧ Hid (Below w.heap.size w wr)) (fun _ i _ => LL.length - (intOf i).toNat)
  case atStart => exact ⟨0, [], rfl, Nat.zero_le _, Lib.hid rfl, Lib.hid (World.ownsRow_nil _ _ _ _), Lib.hid (fun k hk => by omega), B0⟩
  case round =>
    obtain ⟨j, cs, rfl, hj, hcl, hO, hC, hB⟩ := hrel
    clear B0 C0
    obtain ⟨va, vc, rfl⟩ := own_form hO.out
    by_cases hjn : j < LL.length
    · have jI : (j : Int) < (LL.length : Int) := by omega
      have jB := decide_eq_true jI
      obtain ⟨g, o, q, cq, rfl, CK, NN, -⟩ := HF.out j hjn
      have ck := CK wr hB.out
      have NNh := Lib.hid NN
      have hWr := hB.out.size
      have C2 : Hid (∀ k (hk : k < j + 1) (hk2 : k < LL.length), ∃ q' cq', (cs ++ [.slice q LL[j].length cq])[k]? = some (.slice q' LL[k].length cq') ∧ ∀ w2, Below w.heap.size w w2 → Nums w2 q' LL[k]) := Lib.hid fun k hk hk2 => by
        rcases Nat.lt_or_ge k j with h1 | h1
        · obtain ⟨q', cq', e, nn⟩ := hC.out k h1 hk2
          have h3 : k < cs.length := by have := hcl.out; omega
          exact ⟨q', cq', by rw [List.getElem?_append_left h3]; exact e, nn⟩
        · obtain rfl : k = j := by omega
          have h3 := hcl.out
          exact ⟨q, cq, by rw [List.getElem?_append_right (by omega), h3, Nat.sub_self]; rfl, NNh.out⟩
      have HL2 : Hid ((cs ++ [Value.slice q LL[j].length cq]).length = j + 1) := Lib.hid (by simp [hcl.out])
      clear CK NN NNh hC HF
      generalize LL[j].length = m at *
      go_wp2_with (at_builtin; refine wpList_append_own _ rfl _ _ 56 rfl w.heap.size 55 i29 (.slice none 0 0) 1 24 Try.underlying56 hi hz0 hz1 hz2 rfl (by decide) (.slice va j vc) j cs rfl (hO.out.alloc _) ⟨wr.heap.size, 0, none⟩ 1 1 [.slice q m cq] rfl rfl news29 (by simp [Value.oneCell']) (by unfold maxLen; omega) (by omega) (by simp; omega) ?_; intro v' w3 hown hgrow _; obtain ⟨g', cap', rfl⟩ := ownsRow_succ hown; have B3 := Lib.hid (app_below hB.out hO.out hgrow).1; have O3 := Lib.hid hown; clear hown hgrow)
      clear ck hO hB
      go_roundw
      case rel => exact ⟨j + 1, _, by go_num, by omega, HL2, O3, C2, B3⟩
      case measure => simp [intOf]; omega
    · obtain rfl : j = LL.length := by omega
      have jI : ¬ (LL.length : Int) < (LL.length : Int) := by omega
      have R9 : Hid (Rws wr va LL) := Lib.hid (by
        have hC2 : Cels wr (fun _ => True) cs LL := ⟨hcl.out, fun i h1 h2 => by
          obtain ⟨q, cq, e, nn⟩ := hC.out i h2 h2
          rw [List.getElem?_eq_getElem h1] at e
          exact ⟨q, cq, Option.some.inj e, nn wr hB.out, fun _ _ => trivial⟩⟩
        exact hC2.rws (by rw [hcl.out]; exact hO.out))
      have B9 := hB.out
      clear hC hO hB
      go_wp2_with fail
      go_ret
      exact ⟨va, vc, rfl, R9.out, B9⟩
end Go.Proofs.Ytbghjcfepjbppaa.Bk
