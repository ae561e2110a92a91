/-
  WHAT A TEXT SAYS, PLAIN: a value, fields, an event; what is written is read as it was, what is read is just what is written.
-/
import Derived.Test.YtgenefamhhncbaaEnc
import Derived.Test.YtgenefamhhncbaaBWas
import Derived.Test.YtgenefamhhncbaaBRefs
namespace Go.Proofs.Ytgenefamhhncbaa
open Go.RowKit
theorem tk_zero {α : Type} {z : α} {s : ByteArray} {e : Int} {r : α × Nat × Int} (h : (Bt.tk z s e r).2.2 = 0) : e = 0 ∧ r.2.2 = 0 ∧ Bt.tk z s e r = (r.1, s.extract r.2.1 s.size, 0) := by
  unfold Bt.tk at h ⊢
  split at h
  · rename_i h1; exact absurd h h1
  · rename_i h1
    split at h
    · rename_i h2; exact absurd h h2
    · rename_i h2
      exact ⟨by omega, by omega, by rw [if_neg h1, if_neg h2]⟩
theorem ext_back (a b : ByteArray) : (a ++ b).extract a.size (a ++ b).size = b := by
  apply ba_ext
  rw [Bt.ext_data, Bt.cat_data, Lib.size_eq a, List.drop_left]
theorem num_back {s : ByteArray} {e : Int} (h : (Bt.tNum s e).2.2 = 0) : e = 0 ∧ Bt.numS ((Bt.tNum s e).1 : Int) ++ (Bt.tNum s e).2.1 = s := by
  obtain ⟨h1, h2, h3⟩ := tk_zero h
  exact ⟨h1, by show Bt.numS (((Bt.tk 0 s e (Bt.rdNum s.data.toList)).1 : Nat) : Int) ++ (Bt.tk 0 s e (Bt.rdNum s.data.toList)).2.1 = s; rw [h3]; exact Bt.num_back s h2⟩
theorem int_back {s : ByteArray} {e : Int} (h : (Bt.tInt s e).2.2 = 0) : e = 0 ∧ Bt.intS (Bt.tInt s e).1 ++ (Bt.tInt s e).2.1 = s := by
  obtain ⟨h1, h2, h3⟩ := tk_zero h
  exact ⟨h1, by show Bt.intS (Bt.tk 0 s e (Bt.rdInt s.data.toList)).1 ++ (Bt.tk 0 s e (Bt.rdInt s.data.toList)).2.1 = s; rw [h3]; exact Bt.int_back s h2⟩
theorem real_back {s : ByteArray} {e : Int} (h : (Bt.tReal s e).2.2 = 0) : e = 0 ∧ Bt.realS (Bt.tReal s e).1 ++ (Bt.tReal s e).2.1 = s := by
  obtain ⟨h1, h2, h3⟩ := tk_zero h
  exact ⟨h1, by show Bt.realS (Bt.tk 0 s e (Bt.rdReal s.data.toList)).1 ++ (Bt.tk 0 s e (Bt.rdReal s.data.toList)).2.1 = s; rw [h3]; exact Bt.real_back s h2⟩
theorem text_back {s : ByteArray} {e most : Int} (h : (Bt.tText s e most).2.2 = 0) : e = 0 ∧ Bt.textS (Bt.tText s e most).1 ++ (Bt.tText s e most).2.1 = s := by
  obtain ⟨h1, h2, h3⟩ := tk_zero h
  exact ⟨h1, by show Bt.textS (Bt.tk ⟨#[]⟩ s e (Bt.rdText s most)).1 ++ (Bt.tk ⟨#[]⟩ s e (Bt.rdText s most)).2.1 = s; rw [h3]; exact Bt.text_back s most h2⟩
theorem num_was (n : Nat) (h : n < 18446744073709551616) (more : ByteArray) : Bt.tNum (Bt.numS (n : Int) ++ more) 0 = (n, more, 0) := by
  unfold Bt.tNum
  have e : Bt.rdNum (Bt.numS (n : Int) ++ more).data.toList = (n, (Bt.numS (n : Int)).size, 0) := by rw [Bt.cat_data]; exact Bt.rd_num n h _
  rw [e, Bt.tk_ok, ext_back]
theorem int_was (n : Int) (h0 : -9223372036854775808 ≤ n) (h1 : n ≤ 9223372036854775807) (more : ByteArray) : Bt.tInt (Bt.intS n ++ more) 0 = (n, more, 0) := by
  unfold Bt.tInt
  have e : Bt.rdInt (Bt.intS n ++ more).data.toList = (n, (Bt.intS n).size, 0) := by rw [Bt.cat_data]; exact Bt.rd_int n h0 h1 _
  rw [e, Bt.tk_ok, ext_back]
theorem real_was (f : Nat) (h : f < 18446744073709551616) (more : ByteArray) : Bt.tReal (Bt.realS f ++ more) 0 = (Bt.codeN f, more, 0) := by
  unfold Bt.tReal
  have e : Bt.rdReal (Bt.realS f ++ more).data.toList = (Bt.codeN f, (Bt.realS f).size, 0) := by rw [Bt.cat_data]; exact Bt.rd_real f h _
  rw [e, Bt.tk_ok, ext_back]
theorem rd_text (s more : ByteArray) (most : Int) (hm : (s.size : Int) ≤ most) (hs : s.size < 9223372036854775808) : Bt.rdText (Bt.textS s ++ more) most = (s, (Bt.textS s).size, 0) := by
  have hd : (Bt.textS s ++ more).data.toList = (Bt.numS (s.size : Int)).data.toList ++ (s.data.toList ++ more.data.toList) := by
    unfold Bt.textS; rw [Bt.cat_data, Bt.cat_data, List.append_assoc]
  have hR : Bt.rdNum (Bt.textS s ++ more).data.toList = (s.size, (Bt.numS (s.size : Int)).size, 0) := by rw [hd]; exact Bt.rd_num _ (by omega) _
  have hz : (Bt.textS s ++ more).size = (Bt.numS (s.size : Int)).size + s.size + more.size := by unfold Bt.textS; rw [ByteArray.size_append, ByteArray.size_append]
  rw [Bt.rdText_eq _ _ hR, if_neg (by simp), if_neg (by omega), if_neg (by omega)]
  have ht : (Bt.textS s).size = (Bt.numS (s.size : Int)).size + s.size := by unfold Bt.textS; rw [ByteArray.size_append]
  rw [ht]
  refine congrArg (fun x => (x, _)) ?_
  apply ba_ext
  rw [Lib.extract_data, hd, Lib.size_eq (Bt.numS (s.size : Int)), List.drop_left, Nat.add_sub_cancel_left, Lib.size_eq s, List.take_left]
theorem text_was (s more : ByteArray) (most : Int) (hm : (s.size : Int) ≤ most) (hs : s.size < 9223372036854775808) : Bt.tText (Bt.textS s ++ more) 0 most = (s, more, 0) := by
  unfold Bt.tText
  rw [rd_text s more most hm hs, Bt.tk_ok, ext_back]
/-- a number read as a whole one -/
def w64 (n : Nat) : Int := IntKind.i64.wrap (n : Int)
theorem w64_small {n : Nat} (h : n < 9223372036854775808) : w64 n = n := by unfold w64; exact IntWalk.i64_in _ (by omega)
theorem w64_big {n : Nat} (h : 9223372036854775808 ≤ n) (h2 : n < 18446744073709551616) : w64 n = (n : Int) - 18446744073709551616 := by
  unfold w64
  rw [IntKind.wrap_i64]; omega
/-- what a value's place holds, by its kind -/
def valAt (k : Int) (s : ByteArray) (e : Int) : Val × ByteArray × Int :=
  if k = 1 then (⟨k, (Bt.tInt s e).1, 0, ⟨#[]⟩⟩, (Bt.tInt s e).2) else if k = 2 then (⟨k, 0, (Bt.tReal s e).1, ⟨#[]⟩⟩, (Bt.tReal s e).2)
  else if k = 3 then (⟨k, 0, 0, (Bt.tText s e 64).1⟩, (Bt.tText s e 64).2) else (⟨k, 0, 0, ⟨#[]⟩⟩, s, e)
def tVal (s : ByteArray) (e : Int) : Val × ByteArray × Int := valAt (w64 (Bt.tNum s e).1) (Bt.tNum s e).2.1 (Bt.tNum s e).2.2
/-- the document's numbers: -1, where one is more than it may be -/
def lim (n : Nat) (m : Nat) : Int := if m < n then -1 else n
def rVal (s : ByteArray) (e : Int) : Val × ByteArray × Int := valAt (lim (Bt.tNum s e).1 3) (Bt.tNum s e).2.1 (Bt.tNum s e).2.2
/-- j fields, by whichever way values are read -/
def dFlds (V : ByteArray → Int → Val × ByteArray × Int) (s : ByteArray) (e : Int) : Nat → List Fld × ByteArray × Int
  | 0 => ([], s, e)
  | j + 1 => ((dFlds V s e j).1 ++ [⟨(Bt.tText (dFlds V s e j).2.1 (dFlds V s e j).2.2 16).1, (V (Bt.tText (dFlds V s e j).2.1 (dFlds V s e j).2.2 16).2.1 (Bt.tText (dFlds V s e j).2.1 (dFlds V s e j).2.2 16).2.2).1⟩],
      (V (Bt.tText (dFlds V s e j).2.1 (dFlds V s e j).2.2 16).2.1 (Bt.tText (dFlds V s e j).2.1 (dFlds V s e j).2.2 16).2.2).2)
theorem dFlds_len (V : ByteArray → Int → Val × ByteArray × Int) (s : ByteArray) (e : Int) : ∀ j, (dFlds V s e j).1.length = j
  | 0 => rfl
  | j + 1 => by show (_ ++ [_]).length = _; rw [List.length_append, dFlds_len V s e j]; rfl
theorem w64_cases {n : Nat} (h : n < 18446744073709551616) : w64 n = n ∨ w64 n < 0 ∧ 9223372036854775808 ≤ n := by
  by_cases h1 : n < 9223372036854775808
  · exact Or.inl (w64_small h1)
  · right
    have := w64_big (n := n) (by omega) h
    omega
/-- a value by what counts of it -/
def canon (v : Val) : Val := if isK v = true then v else ⟨0, 0, 0, ⟨#[]⟩⟩
def canonF (x : Fld) : Fld := ⟨x.nm, canon x.v⟩
theorem canon_may (v : Val) : mayB (canon v) = mayB v := by
  unfold canon
  split
  · rfl
  · rename_i h
    have : mayB v = false := by
      cases hm : mayB v
      · rfl
      · exact absurd (mayB_facts hm).1 h
    rw [this]; rfl
theorem canon_map_okAt (L : List Fld) (i : Nat) : okAt (L.map canonF) i = okAt L i := by
  unfold okAt prevN
  rw [List.getElem?_map, List.getElem?_map]
  cases h : L[i]? with
  | none => rfl
  | some x =>
    simp only [Option.map_some]
    have e : (Option.map (fun x => x.nm) (Option.map canonF L[i - 1]?)) = Option.map (fun x => x.nm) L[i - 1]? := by
      cases L[i - 1]? <;> rfl
    rw [e]
    show (_ && (wordB x.nm && mayB (canon x.v))) = _
    rw [canon_may]
    rfl
theorem canon_fields (L : List Fld) : fieldsB (L.map canonF) = fieldsB L := by
  unfold fieldsB okTo
  rw [List.length_map]
  congr 2
  funext i
  exact canon_map_okAt L i
theorem canon_same {L : List Fld} (h : ∀ i (hi : i < L.length), isK L[i].v = true) : L.map canonF = L := by
  apply List.ext_getElem
  · rw [List.length_map]
  · intro i h1 h2
    rw [List.getElem_map]
    unfold canonF canon
    rw [if_pos (h i h2)]
theorem valAt_no {k : Int} (h : k ≠ 1 ∧ k ≠ 2 ∧ k ≠ 3) (s : ByteArray) (e : Int) : valAt k s e = (⟨k, 0, 0, ⟨#[]⟩⟩, s, e) := by
  unfold valAt
  rw [if_neg h.1, if_neg h.2.1, if_neg h.2.2]
theorem isK_no {k n : Int} {f : Nat} {s : ByteArray} (h : k ≠ 1 ∧ k ≠ 2 ∧ k ≠ 3) : isK ⟨k, n, f, s⟩ = false := by
  unfold isK
  simp [h.1, h.2.1, h.2.2]
theorem val_alike (s : ByteArray) (e : Int) : canon (tVal s e).1 = canon (rVal s e).1 ∧ (tVal s e).2 = (rVal s e).2 := by
  unfold tVal rVal
  have hn := Bt.tNum_lt s e
  generalize Bt.tNum s e = x at *
  by_cases h3 : x.1 ≤ 3
  · have e1 : w64 x.1 = x.1 := w64_small (by omega)
    have e2 : lim x.1 3 = x.1 := by unfold lim; rw [if_neg (by omega)]
    rw [e1, e2]
    exact ⟨rfl, rfl⟩
  · have e2 : lim x.1 3 = -1 := by unfold lim; rw [if_pos (by omega)]
    have e1 : w64 x.1 ≠ 1 ∧ w64 x.1 ≠ 2 ∧ w64 x.1 ≠ 3 := by
      rcases w64_cases hn with h | ⟨h, _⟩ <;> omega
    have e3 : lim x.1 3 ≠ 1 ∧ lim x.1 3 ≠ 2 ∧ lim x.1 3 ≠ 3 := by omega
    rw [valAt_no e1, valAt_no e3]
    refine ⟨?_, rfl⟩
    unfold canon
    rw [isK_no e1, isK_no e3]
    rfl
theorem flds_alike (s : ByteArray) (e : Int) : ∀ j, (dFlds tVal s e j).1.map canonF = (dFlds rVal s e j).1.map canonF ∧ (dFlds tVal s e j).2 = (dFlds rVal s e j).2
  | 0 => ⟨rfl, rfl⟩
  | j + 1 => by
    obtain ⟨h1, h2⟩ := flds_alike s e j
    show ((dFlds tVal s e j).1 ++ [_]).map canonF = ((dFlds rVal s e j).1 ++ [_]).map canonF ∧ (tVal _ _).2 = (rVal _ _).2
    rw [List.map_append, List.map_append, h1, h2]
    obtain ⟨v1, v2⟩ := val_alike (Bt.tText (dFlds rVal s e j).2.1 (dFlds rVal s e j).2.2 16).2.1 (Bt.tText (dFlds rVal s e j).2.1 (dFlds rVal s e j).2.2 16).2.2
    refine ⟨?_, v2⟩
    simp only [List.map_cons, List.map_nil, canonF]
    rw [v1]
theorem num_alike {n : Nat} (h : n < 18446744073709551616) : numB (w64 n) = numB (lim n 549755813888) ∧ (numB (w64 n) = true → w64 n = lim n 549755813888 ∧ w64 n = n) := by
  unfold numB lim
  rcases w64_cases h with e | ⟨e, e2⟩
  · rw [e]
    split
    · refine ⟨?_, fun h => ?_⟩
      · rw [decide_eq_false (show ¬ ((n : Int) ≤ 549755813888) by omega)]; simp
      · simp at h; omega
    · exact ⟨rfl, fun _ => ⟨rfl, rfl⟩⟩
  · rw [if_pos (by omega)]
    refine ⟨?_, fun h => ?_⟩
    · rw [decide_eq_false (show ¬ (0 ≤ w64 n) by omega)]; simp
    · simp at h; omega
/-- what is decoded, step by step -/
def d1 (s : ByteArray) : Nat × ByteArray × Int := Bt.tNum s 0
def d2 (s : ByteArray) : Nat × ByteArray × Int := Bt.tNum (d1 s).2.1 (d1 s).2.2
def d3 (s : ByteArray) : Nat × ByteArray × Int := Bt.tNum (d2 s).2.1 (d2 s).2.2
def d4 (s : ByteArray) : ByteArray × ByteArray × Int := Bt.tText (d3 s).2.1 (d3 s).2.2 16
def d5 (s : ByteArray) : Nat × ByteArray × Int := Bt.tNum (d4 s).2.1 (d4 s).2.2
def dF (s : ByteArray) : List Fld × ByteArray × Int := dFlds tVal (d5 s).2.1 (d5 s).2.2 (d5 s).1
def rF (s : ByteArray) : List Fld × ByteArray × Int := dFlds rVal (d5 s).2.1 (d5 s).2.2 (d5 s).1
def okC (s : ByteArray) : Bool := decide ((d5 s).1 ≤ 8) && (decide (Bt.endE (dF s).2.1 (dF s).2.2 = 0) && chkB (w64 (d1 s).1) (w64 (d2 s).1) (w64 (d3 s).1) (d4 s).1 (dF s).1)
def okR (s : ByteArray) : Bool := decide ((d5 s).1 ≤ 8) && (decide (Bt.endE (rF s).2.1 (rF s).2.2 = 0) && chkB (lim (d1 s).1 549755813888) (lim (d2 s).1 549755813888) (lim (d3 s).1 549755813888) (d4 s).1 (rF s).1)
theorem ok_alike (s : ByteArray) : okC s = okR s ∧ (okC s = true → w64 (d1 s).1 = lim (d1 s).1 549755813888 ∧ w64 (d2 s).1 = lim (d2 s).1 549755813888 ∧ w64 (d3 s).1 = lim (d3 s).1 549755813888 ∧ (dF s).1 = (rF s).1 ∧
    w64 (d1 s).1 = (d1 s).1 ∧ w64 (d2 s).1 = (d2 s).1 ∧ w64 (d3 s).1 = (d3 s).1) := by
  unfold okC okR
  obtain ⟨f1, f2⟩ := flds_alike (d5 s).2.1 (d5 s).2.2 (d5 s).1
  have hF : fieldsB (dF s).1 = fieldsB (rF s).1 := by rw [← canon_fields, ← canon_fields (rF s).1]; unfold dF rF; rw [f1]
  have h2 : (dF s).2 = (rF s).2 := f2
  rw [h2]
  obtain ⟨a1, a2⟩ := num_alike (Bt.tNum_lt s 0)
  obtain ⟨b1, b2⟩ := num_alike (Bt.tNum_lt (d1 s).2.1 (d1 s).2.2)
  obtain ⟨c1, c2⟩ := num_alike (Bt.tNum_lt (d2 s).2.1 (d2 s).2.2)
  have a1 : numB (w64 (d1 s).1) = numB (lim (d1 s).1 549755813888) := a1
  have b1 : numB (w64 (d2 s).1) = numB (lim (d2 s).1 549755813888) := b1
  have c1 : numB (w64 (d3 s).1) = numB (lim (d3 s).1 549755813888) := c1
  refine ⟨?_, fun h => ?_⟩
  · unfold chkB; rw [a1, b1, c1, hF]
  · simp only [Bool.and_eq_true] at h
    have hc := h.2.2
    unfold chkB at hc
    simp only [Bool.and_eq_true] at hc
    obtain ⟨ha, hb, hc, _, hf⟩ := hc
    refine ⟨(a2 ha).1, (b2 hb).1, (c2 hc).1, ?_, (a2 ha).2, (b2 hb).2, (c2 hc).2⟩
    have k1 : ∀ {L : List Fld}, fieldsB L = true → ∀ i (hi : i < L.length), isK L[i].v = true := fun hL i hi => by
      unfold fieldsB at hL
      simp only [Bool.and_eq_true] at hL
      exact (mayB_facts (okAt_facts hi (okTo_at hL.2 hi)).2).1
    have e1 := canon_same (k1 hf)
    have e2 := canon_same (k1 (L := (rF s).1) (hF ▸ hf))
    exact e1.symm.trans (Eq.trans f1 e2)
/-- WHAT IS READ IS JUST WHAT IS WRITTEN -/
theorem valAt_back {k : Int} {s : ByteArray} {e : Int} (hk : isK (valAt k s e).1 = true) (h : (valAt k s e).2.2 = 0) : (valAt k s e).1.k = k ∧ e = 0 ∧ whatS (valAt k s e).1 ++ (valAt k s e).2.1 = s := by
  unfold valAt at hk h ⊢
  split at hk
  · rename_i h1
    subst h1
    rw [if_pos rfl] at h ⊢
    obtain ⟨h1, h2⟩ := int_back h
    exact ⟨rfl, h1, h2⟩
  · rename_i h1
    rw [if_neg h1] at h ⊢
    split at hk
    · rename_i h2
      subst h2
      rw [if_pos rfl] at h ⊢
      obtain ⟨h1, h2⟩ := real_back h
      exact ⟨rfl, h1, h2⟩
    · rename_i h2
      rw [if_neg h2] at h ⊢
      split at hk
      · rename_i h3
        subst h3
        rw [if_pos rfl] at h ⊢
        obtain ⟨h1, h2⟩ := text_back h
        exact ⟨rfl, h1, h2⟩
      · rename_i h3
        rw [isK_no ⟨h1, h2, h3⟩] at hk
        cases hk
theorem isK_le {v : Val} (h : isK v = true) : v.k = 1 ∨ v.k = 2 ∨ v.k = 3 := by
  unfold isK at h
  simp only [Bool.or_eq_true, decide_eq_true_eq] at h
  omega
theorem tVal_back {s : ByteArray} {e : Int} (hk : isK (tVal s e).1 = true) (h : (tVal s e).2.2 = 0) : e = 0 ∧ Bt.numS (tVal s e).1.k ++ (whatS (tVal s e).1 ++ (tVal s e).2.1) = s := by
  obtain ⟨h1, h2, h3⟩ := valAt_back hk h
  obtain ⟨n1, n2⟩ := num_back h2
  refine ⟨n1, ?_⟩
  have hl := Bt.tNum_lt s e
  have hkk : (tVal s e).1.k = ((Bt.tNum s e).1 : Int) := by
    have e1 : (tVal s e).1.k = w64 (Bt.tNum s e).1 := h1
    have e2 := isK_le hk
    rcases w64_cases hl with h | ⟨h, _⟩ <;> omega
  rw [hkk]
  have h3' : whatS (tVal s e).1 ++ (tVal s e).2.1 = (Bt.tNum s e).2.1 := h3
  rw [h3']
  exact n2
theorem flds_back {s : ByteArray} {e : Int} : ∀ {j : Nat}, (∀ x ∈ (dFlds tVal s e j).1, isK x.v = true) → (dFlds tVal s e j).2.2 = 0 → e = 0 ∧ fldsS (dFlds tVal s e j).1 ++ (dFlds tVal s e j).2.1 = s
  | 0, _, h => ⟨h, nil_ba s⟩
  | j + 1, hk, h => by
    have hk1 : ∀ x ∈ (dFlds tVal s e j).1, isK x.v = true := fun x hx => hk x (by show x ∈ _ ++ [_]; exact List.mem_append_left _ hx)
    have hk2 := hk ⟨(Bt.tText (dFlds tVal s e j).2.1 (dFlds tVal s e j).2.2 16).1, (tVal (Bt.tText (dFlds tVal s e j).2.1 (dFlds tVal s e j).2.2 16).2.1 (Bt.tText (dFlds tVal s e j).2.1 (dFlds tVal s e j).2.2 16).2.2).1⟩ (by show _ ∈ _ ++ [_]; exact List.mem_append_right _ (List.mem_singleton.2 rfl))
    obtain ⟨t1, t2⟩ := tVal_back hk2 h
    obtain ⟨x1, x2⟩ := text_back t1
    obtain ⟨i1, i2⟩ := flds_back hk1 x1
    refine ⟨i1, ?_⟩
    show fldsS ((dFlds tVal s e j).1 ++ [_]) ++ _ = s
    rw [fldsS_one]
    refine Eq.trans ?_ i2
    rw [ba_assoc]
    congr 1
    unfold fldS
    rw [ba_assoc, ba_assoc]
    refine Eq.trans ?_ x2
    congr 1
theorem dec_back {s : ByteArray} (h : okC s = true) : evS (w64 (d1 s).1) (w64 (d2 s).1) (w64 (d3 s).1) (d4 s).1 (dF s).1 = s := by
  obtain ⟨_, _, _, _, e1, e2, e3⟩ := (ok_alike s).2 h
  unfold okC at h
  simp only [Bool.and_eq_true, decide_eq_true_eq] at h
  obtain ⟨h8, hE, hC⟩ := h
  have hF := (chk_facts hC).2.2.2.2.2
  unfold Bt.endE at hE
  split at hE
  · rename_i hne; exact absurd hE hne
  · rename_i h0
    split at hE
    · rename_i hz
      obtain ⟨f1, f2⟩ := flds_back (s := (d5 s).2.1) (e := (d5 s).2.2) (j := (d5 s).1) (fun x hx => by
        obtain ⟨i, hi, rfl⟩ := List.mem_iff_getElem.1 hx
        exact (hF i hi).2.1) (by have h0' : (dF s).2.2 = 0 := by omega
                                 exact h0')
      have hr : (dFlds tVal (d5 s).2.1 (d5 s).2.2 (d5 s).1).2.1 = ⟨#[]⟩ := by
        have hz' : (dFlds tVal (d5 s).2.1 (d5 s).2.2 (d5 s).1).2.1.size = 0 := hz
        exact ByteArray.ext (Array.eq_empty_of_size_eq_zero hz')
      rw [hr, ba_nil] at f2
      obtain ⟨g1, g2⟩ := num_back f1
      obtain ⟨p1, p2⟩ := text_back g1
      obtain ⟨c1, c2⟩ := num_back p1
      obtain ⟨b1, b2⟩ := num_back c1
      obtain ⟨a1, a2⟩ := num_back b1
      unfold evS headS
      rw [e1, e2, e3]
      have hl : (dF s).1.length = (d5 s).1 := dFlds_len _ _ _ _
      rw [hl, ba_assoc, ba_assoc, ba_assoc, ba_assoc]
      refine Eq.trans (congrArg _ ?_) a2
      refine Eq.trans (congrArg _ ?_) b2
      refine Eq.trans (congrArg _ ?_) c2
      refine Eq.trans (congrArg _ ?_) p2
      refine Eq.trans (congrArg _ ?_) g2
      exact f2
    · rename_i hz; omega
/-- WHAT IS WRITTEN IS READ AS IT WAS, but for which NaN it is -/
def codeV (v : Val) : Val := ⟨v.k, v.n, Bt.codeN v.f, v.s⟩
def codeF (x : Fld) : Fld := ⟨x.nm, codeV x.v⟩
theorem codeN_zero : Bt.codeN 0 = 0 := by decide +kernel
theorem codeN_ne {f : Nat} (h : f ≠ 0) : Bt.codeN f ≠ 0 := by
  unfold Bt.codeN
  split
  · decide
  · exact h
theorem codeV_may (v : Val) : mayB (codeV v) = mayB v := by
  have e : decide (Bt.codeN v.f = 0) = decide (v.f = 0) := by
    by_cases h : v.f = 0
    · rw [h, codeN_zero]
    · rw [decide_eq_false h, decide_eq_false (codeN_ne h)]
  unfold mayB codeV
  simp only [e]
theorem codeF_okAt (L : List Fld) (i : Nat) : okAt (L.map codeF) i = okAt L i := by
  unfold okAt prevN
  rw [List.getElem?_map, List.getElem?_map]
  cases h : L[i]? with
  | none => rfl
  | some x =>
    simp only [Option.map_some]
    have e : (Option.map (fun x => x.nm) (Option.map codeF L[i - 1]?)) = Option.map (fun x => x.nm) L[i - 1]? := by
      cases L[i - 1]? <;> rfl
    rw [e]
    show (_ && (wordB x.nm && mayB (codeV x.v))) = _
    rw [codeV_may]
    rfl
theorem codeF_fields (L : List Fld) : fieldsB (L.map codeF) = fieldsB L := by
  unfold fieldsB okTo
  rw [List.length_map]
  congr 2
  funext i
  exact codeF_okAt L i
theorem val_was {v : Val} (hw : v.Wf) (hm : mayB v = true) (more : ByteArray) : tVal (Bt.numS v.k ++ (whatS v ++ more)) 0 = (codeV v, more, 0) := by
  obtain ⟨hk, hs⟩ := mayB_facts hm
  have e : Bt.tNum (Bt.numS v.k ++ (whatS v ++ more)) 0 = (v.k.toNat, whatS v ++ more, 0) := by
    have := isK_le hk
    have h := num_was v.k.toNat (by omega) (whatS v ++ more)
    rw [show ((v.k.toNat : Nat) : Int) = v.k by omega] at h
    exact h
  obtain ⟨k, n, f, s⟩ := v
  unfold tVal
  rw [e]
  have hk' := isK_le hk
  simp only at hk' hs ⊢
  rw [w64_small (by omega), show ((k.toNat : Nat) : Int) = k by omega]
  unfold mayB at hm
  unfold valAt whatS codeV
  simp only at hm ⊢
  rcases hk' with rfl | rfl | rfl
  · rw [if_pos rfl, if_pos rfl]
    rw [if_pos rfl] at hm
    simp only [Bool.and_eq_true, decide_eq_true_eq] at hm
    rw [int_was n hw.n0 hw.n1, hm.1, codeN_zero, hm.2]
  · rw [if_neg (by decide), if_pos rfl, if_neg (by decide), if_pos rfl]
    rw [if_neg (by decide), if_pos rfl] at hm
    simp only [Bool.and_eq_true, decide_eq_true_eq] at hm
    rw [real_was f hw.f, hm.1, hm.2]
  · rw [if_neg (by decide), if_neg (by decide), if_pos rfl, if_neg (by decide), if_neg (by decide)]
    rw [if_neg (by decide), if_neg (by decide), if_pos rfl] at hm
    simp only [Bool.and_eq_true, decide_eq_true_eq] at hm
    rw [text_was s more 64 (by omega) (by omega), hm.2.1, hm.2.2, codeN_zero]
theorem flds_was {L : List Fld} (hw : ∀ x ∈ L, x.v.Wf ∧ mayB x.v = true ∧ x.nm.size ≤ 16) (more : ByteArray) : ∀ j, j ≤ L.length → dFlds tVal (fldsS L ++ more) 0 j = ((L.take j).map codeF, fldsS (L.drop j) ++ more, 0)
  | 0, _ => by rfl
  | j + 1, hj => by
    have ih := flds_was hw more j (by omega)
    have hjl : j < L.length := by omega
    have ed : L.drop j = L[j] :: L.drop (j + 1) := (List.getElem_cons_drop hjl).symm
    obtain ⟨h1, h2, h3⟩ := hw L[j] (List.getElem_mem hjl)
    have et : Bt.tText (fldsS (L.drop j) ++ more) 0 16 = (L[j].nm, Bt.numS L[j].v.k ++ (whatS L[j].v ++ (fldsS (L.drop (j + 1)) ++ more)), 0) := by
      rw [ed]
      show Bt.tText ((fldS L[j] ++ fldsS (L.drop (j + 1))) ++ more) 0 16 = _
      unfold fldS
      rw [ba_assoc, ba_assoc, ba_assoc]
      exact text_was L[j].nm _ 16 (by omega) (by omega)
    show ((dFlds tVal (fldsS L ++ more) 0 j).1 ++ [⟨(Bt.tText (dFlds tVal (fldsS L ++ more) 0 j).2.1 (dFlds tVal (fldsS L ++ more) 0 j).2.2 16).1, _⟩], _) = _
    rw [ih]
    simp only
    rw [et]
    simp only
    rw [val_was h1 h2]
    rw [List.take_succ_eq_append_getElem hjl, List.map_append]
    rfl
theorem dec_was {a b c : Int} {k : ByteArray} {L : List Fld} (h : chkB a b c k L = true) (hw : ∀ x ∈ L, x.v.Wf) :
    okC (evS a b c k L) = true ∧ w64 (d1 (evS a b c k L)).1 = a ∧ w64 (d2 (evS a b c k L)).1 = b ∧ w64 (d3 (evS a b c k L)).1 = c ∧ (d4 (evS a b c k L)).1 = k ∧ (dF (evS a b c k L)).1 = L.map codeF := by
  obtain ⟨⟨a0, a1⟩, ⟨b0, b1⟩, ⟨c0, c1⟩, hk, hl, hf⟩ := chk_facts h
  have hC := h
  unfold chkB at h
  simp only [Bool.and_eq_true] at h
  obtain ⟨ha, hb, hc, hwk, hfl⟩ := h
  have hX : ∀ x ∈ L, x.v.Wf ∧ mayB x.v = true ∧ x.nm.size ≤ 16 := fun x hx => by
    obtain ⟨i, hi, rfl⟩ := List.mem_iff_getElem.1 hx
    refine ⟨hw _ hx, ?_, (hf i hi).1⟩
    unfold fieldsB at hfl
    simp only [Bool.and_eq_true] at hfl
    exact (okAt_facts hi (okTo_at hfl.2 hi)).2
  have N : ∀ {n : Int}, 0 ≤ n → n ≤ 549755813888 → ∀ more, Bt.tNum (Bt.numS n ++ more) 0 = (n.toNat, more, 0) := by
    intro n h0 h1 more
    have := num_was n.toNat (by omega) more
    rw [Int.toNat_of_nonneg h0] at this
    exact this
  have E1 : d1 (evS a b c k L) = (a.toNat, Bt.numS b ++ (Bt.numS c ++ (Bt.textS k ++ (Bt.numS (L.length : Int) ++ fldsS L))), 0) := by
    unfold d1 evS headS
    rw [ba_assoc, ba_assoc, ba_assoc, ba_assoc]
    exact N a0 a1 _
  have E2 : d2 (evS a b c k L) = (b.toNat, Bt.numS c ++ (Bt.textS k ++ (Bt.numS (L.length : Int) ++ fldsS L)), 0) := by
    unfold d2; rw [E1]; exact N b0 b1 _
  have E3 : d3 (evS a b c k L) = (c.toNat, Bt.textS k ++ (Bt.numS (L.length : Int) ++ fldsS L), 0) := by
    unfold d3; rw [E2]; exact N c0 c1 _
  have E4 : d4 (evS a b c k L) = (k, Bt.numS (L.length : Int) ++ fldsS L, 0) := by
    unfold d4; rw [E3]; exact text_was k _ 16 (by omega) (by omega)
  have E5 : d5 (evS a b c k L) = (L.length, fldsS L, 0) := by
    unfold d5; rw [E4]
    have := N (n := (L.length : Int)) (by omega) (by omega) (fldsS L)
    exact this
  have EF : dF (evS a b c k L) = (L.map codeF, ⟨#[]⟩, 0) := by
    unfold dF
    rw [E5]
    have := flds_was hX ⟨#[]⟩ L.length (Nat.le_refl _)
    rw [ba_nil] at this
    rw [this, List.take_of_length_le (Nat.le_refl _), List.drop_of_length_le (Nat.le_refl _)]
    rfl
  have wa : ∀ {n : Int}, 0 ≤ n → n ≤ 549755813888 → w64 n.toNat = n := fun h0 h1 => by rw [w64_small (by omega)]; omega
  refine ⟨?_, by rw [E1]; exact wa a0 a1, by rw [E2]; exact wa b0 b1, by rw [E3]; exact wa c0 c1, by rw [E4], by rw [EF]⟩
  unfold okC
  rw [E1, E2, E3, E4, E5, EF]
  simp only [wa a0 a1, wa b0 b1, wa c0 c1]
  unfold chkB
  rw [ha, hb, hc, hwk, codeF_fields, hfl, decide_eq_true hl]
  rfl
end Go.Proofs.Ytgenefamhhncbaa
