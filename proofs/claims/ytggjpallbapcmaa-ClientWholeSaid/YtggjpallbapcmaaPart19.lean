/-
  WHAT THE ROWS REST ON, part 19: BOne BRef BRefs Blp.
-/
import Derived.Lib.QuietBelow
import Derived.BigQuiet
import Derived.Test.YtggjpallbapcmaaPart18
/-
  WHAT IS READ HAS ONE FORM: written again it is the bytes that were read. Plain.
-/
namespace Go.Proofs.Ytggjpallbapcmaa.Bt
open Go.RowKit
theorem bytes_ext {a b : ByteArray} (h : a.data.toList = b.data.toList) : a = b := ByteArray.ext (Array.toList_inj.1 h)
theorem cat_data (a b : ByteArray) : (a ++ b).data.toList = a.data.toList ++ b.data.toList := by simp
theorem ext_data (s : ByteArray) (k : Nat) : (s.extract k s.size).data.toList = s.data.toList.drop k := by
  rw [Lib.extract_data, List.take_of_length_le]
  rw [List.length_drop, ← Lib.size_eq]
  exact Nat.le_refl _
def u8l (l : List Int) : List UInt8 := l.map fun n => UInt8.ofNat n.toNat
theorem u8s_snoc (l : List Int) (n : Int) : u8l (l ++ [n]) = u8l l ++ [UInt8.ofNat n.toNat] := by simp [u8l]
theorem be_join (l : List UInt8) : u8l (be l.length (joinN l)) = l := by
  have h : ∀ (k : Nat) (l : List UInt8), l.length = k → u8l (be k (joinN l)) = l := by
    intro k
    induction k with
    | zero => intro l hl; rw [List.eq_nil_of_length_eq_zero hl]; rfl
    | succ k ih =>
      intro l hl
      have hne : l ≠ [] := fun e => by rw [e] at hl; simp at hl
      obtain ⟨m, b, rfl⟩ : ∃ m b, l = m ++ [b] := ⟨l.dropLast, l.getLast hne, (List.dropLast_concat_getLast hne).symm⟩
      have hb := b.toNat_lt
      have hm : m.length = k := by simpa using hl
      rw [joinN_snoc]
      have e1 : (((joinN m * 256 + b.toNat : Nat) : Int) / 256) = ((joinN m : Nat) : Int) := by omega
      have e2 : (((joinN m * 256 + b.toNat : Nat) : Int) % 256).toNat = b.toNat := by omega
      simp only [be]
      rw [u8s_snoc, e1, e2, ih m hm]
      simp
  exact h _ l rfl
theorem leastN_lt (k : Nat) (h : 2 ≤ k) : leastN k = 256 ^ (k - 1) := by unfold leastN; rw [if_neg (by omega)]
theorem wid_of {n : Nat} {k : Nat} (h1 : 1 ≤ k) (h2 : k ≤ 8) (hlo : leastN k ≤ n) (hhi : n < 256 ^ k) : wid (n : Int) = k := by
  have hk : k = 1 ∨ k = 2 ∨ k = 3 ∨ k = 4 ∨ k = 5 ∨ k = 6 ∨ k = 7 ∨ k = 8 := by omega
  rcases hk with rfl | rfl | rfl | rfl | rfl | rfl | rfl | rfl
  all_goals
    simp [leastN] at hlo hhi
    unfold wid
    repeat' split
    all_goals omega
/-- a number that is read, written again, is the bytes that were read -/
theorem num_one (l : List UInt8) (h : (rdNum l).2.2 = 0) : (numS ((rdNum l).1 : Int)).data.toList = l.take (rdNum l).2.1 := by
  unfold numS
  rw [strOfNums_data]
  match l with
  | [] => simp [rdNum] at h
  | b :: t =>
    have hb := b.toNat_lt
    simp only [rdNum] at h ⊢
    split at h
    · rename_i hb1
      rw [if_pos hb1]
      unfold numI
      rw [if_pos (by simp only; omega)]
      simp
    · rename_i hb1
      rw [if_neg hb1]
      split at h
      · simp at h
      · rename_i hlen
        rw [if_neg hlen]
        split at h
        · simp at h
        · rename_i hlo
          rw [if_neg hlo]
          simp only
          have htl : (t.take (b.toNat - 247)).length = b.toNat - 247 := by rw [List.length_take]; omega
          have hlt := joinN_lt (t.take (b.toNat - 247))
          rw [htl] at hlt
          have hw := wid_of (n := joinN (t.take (b.toNat - 247))) (k := b.toNat - 247) (by omega) (by omega) (by omega) hlt
          have hbe := be_join (t.take (b.toNat - 247))
          rw [htl] at hbe
          have hge : 248 ≤ leastN (b.toNat - 247) := by
            unfold leastN
            split
            · omega
            · exact Nat.le_trans (by decide : 248 ≤ 256 ^ 1) (Nat.pow_le_pow_right (by decide) (by omega))
          have e : (((247 + (b.toNat - 247) : Nat) : Int)).toNat = b.toNat := by omega
          have hn : ¬ ((joinN (t.take (b.toNat - 247)) : Nat) : Int) ≤ 247 := by omega
          unfold u8l at hbe
          unfold numI
          rw [if_neg hn, hw, List.map_cons, List.take_succ_cons, e, hbe]
          simp
theorem zig_unz (n : Nat) : Lib.zigzag (unz n) = n := by
  unfold unz Lib.zigzag
  split
  · rename_i h; rw [if_pos (by omega)]; omega
  · rename_i h; rw [if_neg (by omega)]; omega
theorem take_cat (s x : ByteArray) (k : Nat) (h : x.data.toList = s.data.toList.take k) : x ++ s.extract k s.size = s := by
  apply bytes_ext
  rw [cat_data, ext_data, h, List.take_append_drop]
theorem num_back (s : ByteArray) (h : (rdNum s.data.toList).2.2 = 0) : numS ((rdNum s.data.toList).1 : Int) ++ s.extract (rdNum s.data.toList).2.1 s.size = s := take_cat s _ _ (num_one _ h)
theorem int_back (s : ByteArray) (h : (rdInt s.data.toList).2.2 = 0) : intS (rdInt s.data.toList).1 ++ s.extract (rdInt s.data.toList).2.1 s.size = s := by
  unfold intS rdInt
  simp only [zig_unz]
  exact num_back s h
theorem real_back (s : ByteArray) (h : (rdReal s.data.toList).2.2 = 0) : realS (rdReal s.data.toList).1 ++ s.extract (rdReal s.data.toList).2.1 s.size = s := by
  apply take_cat
  unfold realS
  rw [strOfNums_data]
  unfold rdReal at h ⊢
  split at h
  · simp at h
  · rename_i h8
    rw [if_neg h8]
    split at h
    · simp at h
    · rename_i hc
      rw [if_neg hc]
      simp only
      rw [show codeN (joinN (s.data.toList.take 8)) = joinN (s.data.toList.take 8) by simpa using hc]
      have hb := be_join (s.data.toList.take 8)
      rw [show (s.data.toList.take 8).length = 8 by rw [List.length_take]; omega] at hb
      exact hb
theorem text_back (s : ByteArray) (most : Int) (h : (rdText s most).2.2 = 0) : textS (rdText s most).1 ++ s.extract (rdText s most).2.1 s.size = s := by
  rcases hR : rdNum s.data.toList with ⟨N, K, E⟩
  have hle := rdNum_le s
  have hone := num_one s.data.toList
  rw [hR] at hle hone
  rw [rdText_eq s most hR] at h ⊢
  split at h
  · rename_i hE; exact absurd h hE
  · rename_i hE
    rw [if_neg hE]
    split at h
    · simp at h
    · rename_i h2
      rw [if_neg h2]
      split at h
      · simp at h
      · rename_i h3
        rw [if_neg h3]
        simp only at hle hone ⊢
        apply take_cat
        have hsz : (s.extract K (K + N)).size = N := by simp; omega
        unfold textS
        rw [cat_data, hsz, hone (by simpa using hE), Lib.extract_data, List.take_add]
        congr 2
        omega
end Go.Proofs.Ytggjpallbapcmaa.Bt
/-
  THE DOCUMENT'S OWN TAPE: a number at the front.
-/
namespace Go.Proofs.Ytggjpallbapcmaa.Bt
open Go.RowKit Go.Sort
theorem mixed : Try.prog.follows .mixedOrders = true := by kernel_rfl
theorem numS_len (n : Int) : (numS n).size = if n ≤ 247 then 1 else wid n + 1 := by
  unfold numS numI
  rw [strOfNums_size]
  split
  · simp
  · rw [List.length_cons, be_len]
theorem wid_small {n k : Nat} (h1 : 1 ≤ k) (h2 : k ≤ 8) (h : n < leastN k) (h3 : 247 < n) : wid (n : Int) < k := by
  have hk : k = 1 ∨ k = 2 ∨ k = 3 ∨ k = 4 ∨ k = 5 ∨ k = 6 ∨ k = 7 ∨ k = 8 := by omega
  rcases hk with rfl | rfl | rfl | rfl | rfl | rfl | rfl | rfl
  all_goals
    simp [leastN] at h
    unfold wid
    repeat' split
    all_goals omega
theorem num_form (s : ByteArray) (k : Nat) (h0 : 0 < s.size) (hk : s[0].toNat = 247 + k) (h1 : 1 ≤ k) (hs : k + 1 ≤ s.size) :
    numS (joinN ((s.data.toList.drop 1).take k) : Nat) = s.extract 0 (k + 1) ↔ ¬ joinN ((s.data.toList.drop 1).take k) < leastN k := by
  have hb := s[0].toNat_lt
  have hd := head_drop s h0
  have hlen : (s.data.toList.drop 1).length = s.size - 1 := by rw [List.length_drop, ← Lib.size_eq]
  have hrd : rdNum s.data.toList = if joinN ((s.data.toList.drop 1).take k) < leastN k then (0, 0, 3) else (joinN ((s.data.toList.drop 1).take k), k + 1, 0) := by
    rw [hd]
    simp only [rdNum]
    rw [if_neg (by omega), show s[0].toNat - 247 = k by omega]
    simp only [List.drop_succ_cons, List.drop_zero]
    rw [if_neg (by omega)]
  constructor
  · intro he hlt
    have e1 := congrArg ByteArray.size he
    rw [numS_len] at e1
    have e3 : (s.extract 0 (k + 1)).size = k + 1 := by rw [ByteArray.size_extract]; omega
    rw [e3] at e1
    split at e1
    · omega
    · have := wid_small h1 (by omega) hlt (by omega)
      omega
  · intro hlt
    rw [if_neg hlt] at hrd
    have := num_one s.data.toList (by rw [hrd])
    rw [hrd] at this
    apply bytes_ext
    rw [Lib.extract_data, List.drop_zero, Nat.sub_zero]
    exact this
theorem join_next (s : ByteArray) (j : Nat) (h : j + 1 < s.size) : joinN ((s.data.toList.drop 1).take (j + 1)) = joinN ((s.data.toList.drop 1).take j) * 256 + s[j + 1].toNat := by
  have hl : j < (s.data.toList.drop 1).length := by rw [List.length_drop, ← Lib.size_eq]; omega
  rw [List.take_succ_eq_append_getElem hl, joinN_snoc, List.getElem_drop]
  simp only [Nat.add_comm 1 j]
  rfl
def aheadV (x : Nat × Nat × Int) : Value := .tuple #[.int .u64 (x.1 : Int), .int .i64 (x.2.1 : Int), .int .i64 x.2.2]
end Go.Proofs.Ytggjpallbapcmaa.Bt
/-
  THE DOCUMENT'S OWN TAPE: its calls.
-/
namespace Go.Proofs.Ytggjpallbapcmaa.Bt
open Go.RowKit Go.Sort
/-- a tape of the document, and what it answers -/
def tp (s : ByteArray) (e : Int) : Value := .agg #[.string s, .int .i64 e]
def rv {α : Type} (x : α × ByteArray × Int) (v : Value) : Value := .tuple #[.agg #[.string x.2.1, .int .i64 x.2.2], v]
theorem extract_all (s : ByteArray) : s.extract 0 s.size = s := bytes_ext (by rw [Lib.extract_data, List.drop_zero, Nat.sub_zero, List.take_of_length_le (by rw [← Lib.size_eq]; exact Nat.le_refl _)])
section
variable {w w' : World} {b : Nat} {s s' : ByteArray} {e e' : Int}
end
theorem tInt_of (s : ByteArray) (e : Int) : tInt s e = (unz (tNum s e).1, (tNum s e).2) := by
  unfold tInt tNum tk rdInt
  split
  · simp [unz]
  · dsimp only
    split
    · simp [unz]
    · rfl
theorem tNum_lt (s : ByteArray) (e : Int) : (tNum s e).1 < 18446744073709551616 := by
  have hf := (rdNum_facts s.data.toList).1
  unfold tNum tk
  split
  · exact (by decide : (0 : Nat) < 18446744073709551616)
  · split
    · exact (by decide : (0 : Nat) < 18446744073709551616)
    · exact hf
/-- a real number -/
theorem take8_next (s : ByteArray) (j : Nat) (h : j < s.size) : joinN (s.data.toList.take (j + 1)) = joinN (s.data.toList.take j) * 256 + s[j].toNat := by
  have hl : j < s.data.toList.length := by rw [← Lib.size_eq]; exact h
  rw [List.take_succ_eq_append_getElem hl, joinN_snoc]
  rfl
end Go.Proofs.Ytggjpallbapcmaa.Bt
/-
  Reading a book, plainly; takeMatch 32.
-/
namespace Go.Proofs.Ytggjpallbapcmaa.Bk
open Go.RowKit
abbrev Tp := ByteArray × Int
/-- a number off a tape -/
def pn (t : Tp) : Nat × Tp := Bt.tNum t.1 t.2
def pNs : Nat → Tp → List Int × Tp
  | 0, t => ([], t)
  | k + 1, t => ((pNs k t).1 ++ [IntKind.i64.wrap ((pn (pNs k t).2).1 : Int)], (pn (pNs k t).2).2)
/-- a match off a tape -/
def pMt (t : Tp) : List Int × Tp := pNs (min (pn t).1 17) (pn t).2
theorem pNs_len (k : Nat) (t : Tp) : (pNs k t).1.length = k := by
  induction k with
  | zero => rfl
  | succ k ih => show ((pNs k t).1 ++ [_]).length = _; rw [List.length_append, ih]; rfl
theorem pn_le (t : Tp) : (pn t).2.1.size ≤ t.1.size := by
  unfold pn Bt.tNum
  by_cases he : t.2 = 0
  · rw [he]
    rcases hR : Bt.rdNum t.1.data.toList with ⟨v, k, e⟩
    by_cases h : e = 0
    · subst h
      rw [Bt.tk_ok]
      show (t.1.extract k t.1.size).size ≤ _
      rw [ByteArray.size_extract]; omega
    · rw [Bt.tk_bad _ _ _ _ h]; exact Nat.le_refl _
  · rw [Bt.tk_stays _ _ _ he]; exact Nat.le_refl _
theorem pNs_le (k : Nat) (t : Tp) : (pNs k t).2.1.size ≤ t.1.size := by
  induction k with
  | zero => exact Nat.le_refl _
  | succ k ih => exact Nat.le_trans (pn_le _) ih
theorem pMt_le (t : Tp) : (pMt t).2.1.size ≤ t.1.size := Nat.le_trans (pNs_le _ _) (pn_le t)
theorem pn_lt (t : Tp) : (pn t).1 < 18446744073709551616 := Bt.tNum_lt t.1 t.2
theorem tape_num {w : World} {b : Nat} {t : Tp} (h : Bt.TapeAt w b t.1 t.2) (hs : t.1.size ≤ 281474976710656) :
    Calls Try.prog 60 #[.pointer (some ⟨b, 0, none⟩)] w fun r w' => r = .returned (.int .u64 ((pn t).1 : Int)) ∧ Fr w w' (fun q => q = b) ∧ Bt.TapeAt w' b (pn t).2.1 (pn t).2.2 :=
  (Bt.tapeNum_any h hs).mono fun r w' ⟨h1, h2, h3⟩ => ⟨h1, (Fr.of_grown h2).mono (fun q _ e => by cases e; rfl), h3⟩
theorem tape_fr {w w' : World} {b : Nat} {s : ByteArray} {e : Int} {P : Nat → Prop} (h : Bt.TapeAt w b s e) (f : Fr w w' P) (hP : ¬ P b) : Bt.TapeAt w' b s e := (f.block b h.lt hP).trans h
/-- taking a match: between two picks -/
structure Tkm (w wr : World) (b : Nat) (t : Tp) (xs : List Int) (v : Value) : Prop where
  y : Blk wr w.heap.size 70 #[.slice none 0 0]
  m : Blk wr (w.heap.size + 1) 70 #[v]
  o : OwnN wr (w.heap.size + 2) v xs
  t : Bt.TapeAt wr b t.1 t.2
  f : Fr w wr (fun q => q = b)
theorem one_int (x : Int) : ∀ u ∈ [Value.int .i64 x], u.oneCell' = true := fun u hu => by rw [List.mem_singleton.1 hu]; rfl
theorem news_int (W : World) (x : Int) : ∀ j u, ([Value.int .i64 x] : List Value)[j]? = some u → (W.alloc (.cells #[.int .i64 x] 3)).cell? ((⟨W.heap.size, 0, none⟩ : Addr).add j) = some u := by
  intro j u hj
  match j, hj with
  | 0, hj => rw [addr_add, (Blk.new W 3 #[.int .i64 x]).cell]; exact hj
/-- a pick is put behind the others -/
theorem Tkm.push {w w2 w3 : World} {b : Nat} {t : Tp} {xs : List Int} {v v' : Value} {x : Int} (h : Tkm w w2 b t xs v)
    (hown : w3.ownsRow (w.heap.size + 2) 3 1 v' (xs.length + 1) (xs.map (Value.int .i64) ++ [.int .i64 x])) (hg : (w2.alloc (.cells #[.int .i64 x] 3)).grownBy w3 v.ownBlock) (hb : b < w.heap.size) :
    Blk w3 (w.heap.size + 1) 70 #[v] ∧ Tkm w (w3.setCell ⟨w.heap.size + 1, 0, none⟩ v') b t (xs ++ [x]) v' := by
  have bA : Below w2.heap.size w2 (w2.alloc (.cells #[.int .i64 x] 3)) := (Below.refl _ _).alloc (Nat.le_refl _) _
  have f3 : Fr w2 w3 (fun q => v.ownBlock = some q) := (Fr.of_below bA _).on ((Fr.of_grown hg).mono (fun q _ e => e.symm))
  have hv : ∀ q, v.ownBlock = some q → w.heap.size + 2 ≤ q := fun q hq => (h.o.ge q hq).1
  have hv' : ∀ q, v'.ownBlock = some q → w.heap.size + 2 ≤ q := fun q hq => (World.ownsRow.lt hown q hq).1
  have m3 := h.m.fr f3 (fun e => by have := hv _ e; omega)
  have fs := fr_set w3 (w.heap.size + 1) 0 v'
  have t3 := tape_fr h.t f3 (fun e => by have := hv _ e; omega)
  have F : Fr w (w3.setCell ⟨w.heap.size + 1, 0, none⟩ v') (fun q => q = b) := (h.f.trans f3 (fun _ _ h => h) (fun q hq e => by have := hv q e; omega)).trans fs (fun _ _ h => h) (fun q hq e => by omega)
  refine ⟨m3, (h.y.fr f3 (fun e => by have := hv _ e; omega)).fr fs (by omega), m3.set 0 v', ?_, tape_fr t3 fs (by omega), F⟩
  have o4 := Fr.own hown fs (fun q hq e => by have := hv' q hq; omega)
  unfold OwnN
  rw [List.length_append, List.map_append]
  exact o4
/-- what takeMatch leaves -/
def Tkd (w : World) (b : Nat) (t : Tp) (e : Ending) (w' : World) : Prop := ∃ u, e = .returned (.agg #[u]) ∧ OwnN w' w.heap.size u (pMt t).1 ∧ Bt.TapeAt w' b (pMt t).2.1 (pMt t).2.2 ∧ Fr w w' (fun q => q = b)
set_option maxHeartbeats 8000000 in
set_option maxRecDepth 100000 in
theorem take_any {w : World} {b : Nat} {t : Tp} (h : Bt.TapeAt w b t.1 t.2) (hs : t.1.size ≤ 281474976710656) : Calls Try.prog 61 #[.pointer (some ⟨b, 0, none⟩)] w (Tkd w b t) := by
  have hb := h.lt
  obtain ⟨W, hW⟩ : ∃ W, W = (w.alloc (.cells #[.slice none 0 0] 70)).alloc (.cells #[.slice none 0 0] 70) := ⟨_, rfl⟩
  have z1 : (w.alloc (.cells #[.slice none 0 0] 70)).heap.size = w.heap.size + 1 := by simp
  have kY1 := Blk.new w 70 #[.slice none 0 0]
  have kM1 := Blk.new (w.alloc (.cells #[.slice none 0 0] 70)) 70 #[.slice none 0 0]
  have bA := (Below.refl w.heap.size w).alloc (Nat.le_refl _) (.cells #[.slice none 0 0] 70)
  have bB := (Below.refl (w.heap.size + 1) (w.alloc (.cells #[.slice none 0 0] 70))).alloc (by simp) (.cells #[.slice none 0 0] 70)
  rw [z1] at kM1
  rw [← hW] at kM1 bB
  have kY2 := kY1.below bB (by omega)
  have bW : Below w.heap.size w W := bA.trans (bB.mono (by omega))
  have hWs : W.heap.size = w.heap.size + 2 := by rw [hW]; simp
  have tW := h.next bW
  obtain ⟨n0, t1, hn⟩ : ∃ n0 t1, pn t = (n0, t1) := ⟨_, _, rfl⟩
  have HN := Lib.hid (tape_num tW hs)
  have hts : t1.1.size ≤ 281474976710656 := by
    have := pn_le t
    rw [hn] at this
    exact Nat.le_trans this hs
  have hnl : n0 < 18446744073709551616 := by have := pn_lt t; rw [hn] at this; exact this
  rw [hn] at HN
  simp only at HN
  obtain ⟨N, hN⟩ : ∃ N, N = min n0 17 := ⟨_, rfl⟩
  have hMT : Hid (pMt t = pNs N t1) := Lib.hid (by unfold pMt; rw [hn, hN])
  have hNl : N ≤ 17 := by rw [hN]; exact Nat.min_le_right _ _
  have hmin : (if (17 : Int) < (n0 : Int) then (17 : Int) else (n0 : Int)) = (N : Int) := by
    rw [hN]
    by_cases h17 : 17 ≤ n0
    · rw [Nat.min_eq_right h17]; split <;> omega
    · rw [Nat.min_eq_left (by omega)]; split <;> omega
  have S0 : Hid (∀ w1, Fr W w1 (fun q => q = b) → Bt.TapeAt w1 b t1.1 t1.2 → Tkm w w1 b (pNs 0 t1).2 (pNs 0 t1).1 (.slice none 0 0)) := Lib.hid fun w1 f ht => ⟨kY2.fr f (by omega), kM1.fr f (by omega), World.ownsRow_nil _ _ _ _, ht, (Fr.of_below bW _).on f⟩
  have FIN : Hid (∀ w5 u, Blk w5 w.heap.size 70 #[u] → OwnN w5 w.heap.size u (pNs N t1).1 → Bt.TapeAt w5 b (pNs N t1).2.1 (pNs N t1).2.2 → Fr w w5 (fun q => q = b) → Tkd w b t (.returned (.agg #[u])) w5) := Lib.hid fun w5 u _ ho ht hf => ⟨u, rfl, by rw [hMT.out]; exact ho, by rw [hMT.out]; exact ht, hf⟩
  have NUM := Lib.hid (fun (V : World) (k : Nat) (hV : Bt.TapeAt V b (pNs k t1).2.1 (pNs k t1).2.2) => tape_num (t := (pNs k t1).2) hV (Nat.le_trans (pNs_le k t1) hts))
  obtain ⟨i3, hi3, hz30, hz31, hz32⟩ := info_parts info3
  have HW := Lib.hid hW
  clear z1 kY1 kM1 bA bB kY2 bW hW tW h hs hn hN hMT
  by_cases h17 : (17 : Int) < (n0 : Int)
  · have h17B := decide_eq_true h17
    have hN17 : N = 17 := by rw [if_pos h17] at hmin; omega
    clear hmin
    go_enter Try.func61, Try.ntmps61
    go_wp2_with (rw [← HW.out])
    refine HN.out.mono ?_
    rintro e w1 ⟨rfl, f1, tt1⟩
    have S1 := Lib.hid (S0.out w1 f1 tt1)
    clear f1 tt1 S0 HN HW
    go_wp2_with fail
    go_loopw [7] (fun i wr => ∃ (j : Nat) (v : Value), i = .int .u64 j ∧ j ≤ N ∧ Hid (Tkm w wr b (pNs j t1).2 (pNs j t1).1 v)) (fun i _ => N - (intOf i).toNat)
    case atStart => exact ⟨0, _, rfl, Nat.zero_le _, S1⟩
    case round =>
      obtain ⟨j, v, rfl, hj, hS⟩ := hrel
      clear S1
      by_cases hjN : j < N
      · have hjI : (j : Int) < 17 := by omega
        have hjB := decide_eq_true hjI
        have HNUM := Lib.hid (NUM.out wr.drew j hS.out.t)
        obtain ⟨nj, tj, hnj⟩ : ∃ nj tj, pn (pNs j t1).2 = (nj, tj) := ⟨_, _, rfl⟩
        have NX : Hid (pNs (j + 1) t1 = ((pNs j t1).1 ++ [IntKind.i64.wrap (nj : Int)], tj)) := Lib.hid (by
          show ((pNs j t1).1 ++ [IntKind.i64.wrap ((pn (pNs j t1).2).1 : Int)], (pn (pNs j t1).2).2) = _
          rw [hnj])
        rw [hnj] at HNUM
        simp only at HNUM
        have hlen := pNs_len j t1
        obtain ⟨a0, c0, hv, -⟩ := hS.out.o.nums
        rw [hlen] at hv
        subst hv
        have HL := Lib.hid hlen
        have STEP : Hid (∀ w2, Fr wr.drew w2 (fun q => q = b) → Bt.TapeAt w2 b tj.1 tj.2 → Tkm w w2 b tj (pNs j t1).1 (.slice a0 j c0)) := Lib.hid fun w2 f ht => by
          have f' : Fr wr w2 (fun q => q = b) := (fr_drew wr _).on f
          exact ⟨hS.out.y.fr f' (by omega), hS.out.m.fr f' (by omega), hS.out.o.fr f' (fun q hq e => by have := (hS.out.o.ge q hq).1; omega), ht, hS.out.f.on f'⟩
        have c1 : wr.cell? ⟨w.heap.size + 1, 0, none⟩ = some (.slice a0 j c0) := hS.out.m.cell 0
        have f1 : wr.frozen? ⟨w.heap.size + 1, 0, none⟩ = false := hS.out.m.free 0
        have hYw : w.heap.size + 1 < wr.heap.size := hS.out.m.lt
        clear hnj hlen NUM hS FIN
        generalize (pNs j t1).1 = xs at *
        go_wp2_with fail
        go_region_law (first
          | (refine step_append_lies _ rfl (.tmp 10) (.tmp 14) 55 rfl (w.heap.size + 2) 3 i3 _ 1 8 Try.underlying55 hi3 hz30 hz31 hz32 rfl (by decide) (.slice a0 j c0) j (xs.map (Value.int .i64)) rfl (World.ownsRow.alloc OW2.out _) ⟨w2.heap.size, 0, none⟩ 1 1 [.int .i64 (IntKind.i64.wrap (nj : Int))] rfl rfl (news_int w2 (IntKind.i64.wrap (nj : Int))) (one_int (IntKind.i64.wrap (nj : Int))) (by decide) (by unfold maxLen; omega) (by omega) (by simp; omega) _ rfl ?_; intro g cap w3 ho hg _ _; have P3 := T2.out.push (v' := .slice (some ⟨g, 0, none⟩) (j + 1) cap) (by rw [HL.out]; exact ho) hg hb; have d3 : w3.cell? ⟨w.heap.size + 1, 0, none⟩ = some (.slice a0 j c0) := P3.1.cell 0; have e3 := P3.1.free 0; have P3h := Lib.hid P3.2; clear P3 ho hg)
          | (go_simp; refine HNUM.out.mono ?_; rintro e w2 ⟨rfl, f2, tt2⟩; have T2 := Lib.hid (STEP.out w2 f2 tt2); have OW2 : Hid (w2.ownsRow (w.heap.size + 2) 3 1 (.slice a0 j c0) j (xs.map (Value.int .i64))) := Lib.hid (by have := T2.out.o; unfold OwnN at this; rw [HL.out] at this; exact this); have d2 : w2.cell? ⟨w.heap.size + 1, 0, none⟩ = some (.slice a0 j c0) := T2.out.m.cell 0; have d2a : (w2.alloc (.cells #[.int .i64 (IntKind.i64.wrap (nj : Int))] 3)).cell? ⟨w.heap.size + 1, 0, none⟩ = some (.slice a0 j c0) := (T2.out.m.next ((Below.refl _ _).alloc (Nat.le_refl _) _)).cell 0; have hY2 : w.heap.size + 1 < w2.heap.size := T2.out.m.lt; clear f2 tt2))
        all_goals
          generalize w3.setCell ⟨w.heap.size + 1, 0, none⟩ (.slice (some ⟨g, 0, none⟩) (j + 1) cap) = w4 at *
          clear d3 e3 d2 d2a c1 f1 T2 OW2
          go_wp2_with fail
          go_roundw
          case rel => exact ⟨j + 1, _, by go_num, by omega, Lib.hid (by rw [NX.out]; exact P3h.out)⟩
          case measure => simp [intOf]; omega
      · obtain rfl : j = N := by omega
        have hjI : ¬ (j : Int) < 17 := by omega
        clear hN17
        have hlen := pNs_len j t1
        obtain ⟨a0, c0, hv, -⟩ := hS.out.o.nums
        rw [hlen] at hv
        subst hv
        have c1 : wr.cell? ⟨w.heap.size + 1, 0, none⟩ = some (.slice a0 j c0) := hS.out.m.cell 0
        have c0' : wr.cell? ⟨w.heap.size, 0, none⟩ = some (.slice none 0 0) := hS.out.y.cell 0
        have f0 : wr.frozen? ⟨w.heap.size, 0, none⟩ = false := hS.out.y.free 0
        have fs := fr_set wr w.heap.size 0 (.slice a0 j c0)
        have FF : Hid (Tkd w b t (.returned (.agg #[.slice a0 j c0])) (wr.setCell ⟨w.heap.size, 0, none⟩ (.slice a0 j c0)) ∧ Blk (wr.setCell ⟨w.heap.size, 0, none⟩ (.slice a0 j c0)) w.heap.size 70 #[.slice a0 j c0]) := Lib.hid ⟨FIN.out _ _ (hS.out.y.set 0 _) ((hS.out.o.drop (by omega)).fr fs (fun q hq e => by have := (hS.out.o.ge q hq).1; omega)) (tape_fr hS.out.t fs (by omega)) (hS.out.f.trans fs (fun _ _ h => h) (fun q hq e => by omega)), hS.out.y.set 0 _⟩
        clear hS FIN NUM hlen fs
        go_wp2_with fail
        have y0 : (wr.setCell ⟨w.heap.size, 0, none⟩ (.slice a0 j c0)).cell? ⟨w.heap.size, 0, none⟩ = some (.slice a0 j c0) := FF.out.2.cell 0
        have F1 := FF.out.1
        clear FF c1 c0' f0
        generalize wr.setCell ⟨w.heap.size, 0, none⟩ (.slice a0 j c0) = w5 at *
        refine bodyPost_ret (by simp [results, Try.results61, go_sem, y0]; try rfl) rfl ?_
        exact F1
  · have h17B := decide_eq_false h17
    obtain rfl : N = n0 := by rw [if_neg h17] at hmin; omega
    clear hmin
    go_enter Try.func61, Try.ntmps61
    go_wp2_with (rw [← HW.out])
    refine HN.out.mono ?_
    rintro e w1 ⟨rfl, f1, tt1⟩
    have S1 := Lib.hid (S0.out w1 f1 tt1)
    clear f1 tt1 S0 HN HW
    go_wp2_with fail
    go_loopw [7] (fun i wr => ∃ (j : Nat) (v : Value), i = .int .u64 j ∧ j ≤ N ∧ Hid (Tkm w wr b (pNs j t1).2 (pNs j t1).1 v)) (fun i _ => N - (intOf i).toNat)
    case atStart => exact ⟨0, _, rfl, Nat.zero_le _, S1⟩
    case round =>
      obtain ⟨j, v, rfl, hj, hS⟩ := hrel
      clear S1
      by_cases hjN : j < N
      · have hjI : (j : Int) < (N : Int) := by omega
        have hjB := decide_eq_true hjI
        have HNUM := Lib.hid (NUM.out wr.drew j hS.out.t)
        obtain ⟨nj, tj, hnj⟩ : ∃ nj tj, pn (pNs j t1).2 = (nj, tj) := ⟨_, _, rfl⟩
        have NX : Hid (pNs (j + 1) t1 = ((pNs j t1).1 ++ [IntKind.i64.wrap (nj : Int)], tj)) := Lib.hid (by
          show ((pNs j t1).1 ++ [IntKind.i64.wrap ((pn (pNs j t1).2).1 : Int)], (pn (pNs j t1).2).2) = _
          rw [hnj])
        rw [hnj] at HNUM
        simp only at HNUM
        have hlen := pNs_len j t1
        obtain ⟨a0, c0, hv, -⟩ := hS.out.o.nums
        rw [hlen] at hv
        subst hv
        have HL := Lib.hid hlen
        have STEP : Hid (∀ w2, Fr wr.drew w2 (fun q => q = b) → Bt.TapeAt w2 b tj.1 tj.2 → Tkm w w2 b tj (pNs j t1).1 (.slice a0 j c0)) := Lib.hid fun w2 f ht => by
          have f' : Fr wr w2 (fun q => q = b) := (fr_drew wr _).on f
          exact ⟨hS.out.y.fr f' (by omega), hS.out.m.fr f' (by omega), hS.out.o.fr f' (fun q hq e => by have := (hS.out.o.ge q hq).1; omega), ht, hS.out.f.on f'⟩
        have c1 : wr.cell? ⟨w.heap.size + 1, 0, none⟩ = some (.slice a0 j c0) := hS.out.m.cell 0
        have f1 : wr.frozen? ⟨w.heap.size + 1, 0, none⟩ = false := hS.out.m.free 0
        have hYw : w.heap.size + 1 < wr.heap.size := hS.out.m.lt
        clear hnj hlen NUM hS FIN
        generalize (pNs j t1).1 = xs at *
        go_wp2_with fail
        go_region_law (first
          | (refine step_append_lies _ rfl (.tmp 10) (.tmp 14) 55 rfl (w.heap.size + 2) 3 i3 _ 1 8 Try.underlying55 hi3 hz30 hz31 hz32 rfl (by decide) (.slice a0 j c0) j (xs.map (Value.int .i64)) rfl (World.ownsRow.alloc OW2.out _) ⟨w2.heap.size, 0, none⟩ 1 1 [.int .i64 (IntKind.i64.wrap (nj : Int))] rfl rfl (news_int w2 (IntKind.i64.wrap (nj : Int))) (one_int (IntKind.i64.wrap (nj : Int))) (by decide) (by unfold maxLen; omega) (by omega) (by simp; omega) _ rfl ?_; intro g cap w3 ho hg _ _; have P3 := T2.out.push (v' := .slice (some ⟨g, 0, none⟩) (j + 1) cap) (by rw [HL.out]; exact ho) hg hb; have d3 : w3.cell? ⟨w.heap.size + 1, 0, none⟩ = some (.slice a0 j c0) := P3.1.cell 0; have e3 := P3.1.free 0; have P3h := Lib.hid P3.2; clear P3 ho hg)
          | (go_simp; refine HNUM.out.mono ?_; rintro e w2 ⟨rfl, f2, tt2⟩; have T2 := Lib.hid (STEP.out w2 f2 tt2); have OW2 : Hid (w2.ownsRow (w.heap.size + 2) 3 1 (.slice a0 j c0) j (xs.map (Value.int .i64))) := Lib.hid (by have := T2.out.o; unfold OwnN at this; rw [HL.out] at this; exact this); have d2 : w2.cell? ⟨w.heap.size + 1, 0, none⟩ = some (.slice a0 j c0) := T2.out.m.cell 0; have d2a : (w2.alloc (.cells #[.int .i64 (IntKind.i64.wrap (nj : Int))] 3)).cell? ⟨w.heap.size + 1, 0, none⟩ = some (.slice a0 j c0) := (T2.out.m.next ((Below.refl _ _).alloc (Nat.le_refl _) _)).cell 0; have hY2 : w.heap.size + 1 < w2.heap.size := T2.out.m.lt; clear f2 tt2))
        all_goals
          generalize w3.setCell ⟨w.heap.size + 1, 0, none⟩ (.slice (some ⟨g, 0, none⟩) (j + 1) cap) = w4 at *
          clear d3 e3 d2 d2a c1 f1 T2 OW2
          go_wp2_with fail
          go_roundw
          case rel => exact ⟨j + 1, _, by go_num, by omega, Lib.hid (by rw [NX.out]; exact P3h.out)⟩
          case measure => simp [intOf]; omega
      · obtain rfl : j = N := by omega
        have hjI : ¬ (j : Int) < (j : Int) := by omega
        have hlen := pNs_len j t1
        obtain ⟨a0, c0, hv, -⟩ := hS.out.o.nums
        rw [hlen] at hv
        subst hv
        have c1 : wr.cell? ⟨w.heap.size + 1, 0, none⟩ = some (.slice a0 j c0) := hS.out.m.cell 0
        have c0' : wr.cell? ⟨w.heap.size, 0, none⟩ = some (.slice none 0 0) := hS.out.y.cell 0
        have f0 : wr.frozen? ⟨w.heap.size, 0, none⟩ = false := hS.out.y.free 0
        have fs := fr_set wr w.heap.size 0 (.slice a0 j c0)
        have FF : Hid (Tkd w b t (.returned (.agg #[.slice a0 j c0])) (wr.setCell ⟨w.heap.size, 0, none⟩ (.slice a0 j c0)) ∧ Blk (wr.setCell ⟨w.heap.size, 0, none⟩ (.slice a0 j c0)) w.heap.size 70 #[.slice a0 j c0]) := Lib.hid ⟨FIN.out _ _ (hS.out.y.set 0 _) ((hS.out.o.drop (by omega)).fr fs (fun q hq e => by have := (hS.out.o.ge q hq).1; omega)) (tape_fr hS.out.t fs (by omega)) (hS.out.f.trans fs (fun _ _ h => h) (fun q hq e => by omega)), hS.out.y.set 0 _⟩
        clear hS FIN NUM hlen fs
        go_wp2_with fail
        have y0 : (wr.setCell ⟨w.heap.size, 0, none⟩ (.slice a0 j c0)).cell? ⟨w.heap.size, 0, none⟩ = some (.slice a0 j c0) := FF.out.2.cell 0
        have F1 := FF.out.1
        clear FF c1 c0' f0
        generalize wr.setCell ⟨w.heap.size, 0, none⟩ (.slice a0 j c0) = w5 at *
        refine bodyPost_ret (by simp [results, Try.results61, go_sem, y0]; try rfl) rfl ?_
        exact F1
end Go.Proofs.Ytggjpallbapcmaa.Bk
