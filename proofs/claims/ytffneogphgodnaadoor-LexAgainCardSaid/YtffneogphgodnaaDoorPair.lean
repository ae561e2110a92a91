/-
  EACH TOKEN ALONE IS ITSELF, PLAIN: the bytes of a token with a blank, or nothing, behind them begin with that token; two with a blank between are the two.
-/
import Derived.Test.YtffneogphgodnaaDoorCov
import Derived.Test.YtffneogphgodnaaDoorMov
import Derived.Test.YtffneogphgodnaaDoorRef3
namespace Go.Proofs.YtffneogphgodnaaDoor
open Go.RowKit
/-- nothing, or a blank first -/
def Stop (u : List UInt8) : Prop := ∀ c, u.head? = some c → c = 32
theorem span_cut {p : Int → Bool} (hp : p 32 = false) : ∀ (l u : List UInt8), Stop u → spanN p (l.take (spanN p l) ++ u) = spanN p l
  | [], u, hu => by
    cases u with
    | nil => rfl
    | cons c u =>
      obtain rfl := hu c rfl
      unfold spanN
      simp [hp]
  | c :: l, u, hu => by
    have ih := span_cut hp l u hu
    unfold spanN at ih ⊢
    rw [List.takeWhile_cons]
    by_cases h : p (c.toNat : Int) = true
    · rw [if_pos h, List.length_cons, List.take_succ_cons, List.cons_append, List.takeWhile_cons, if_pos h, List.length_cons, ih]
    · rw [if_neg h]
      simp only [List.length_nil, List.take_zero, List.nil_append]
      cases u with
      | nil => rfl
      | cons d u =>
        obtain rfl := hu d rfl
        simp [hp]
theorem span_at_end {p : Int → Bool} : ∀ (l u : List UInt8), spanN p l < l.length → spanN p (l.take (spanN p l + 1) ++ u) = spanN p l
  | [], _, h => absurd h (Nat.not_lt_zero _)
  | c :: l, u, h => by
    by_cases hc : p (c.toNat : Int) = true
    · have e : spanN p (c :: l) = spanN p l + 1 := by unfold spanN; rw [List.takeWhile_cons, if_pos hc, List.length_cons]
      have ih := span_at_end (p := p) l u (by rw [e, List.length_cons] at h; omega)
      rw [e, List.take_succ_cons, List.cons_append]
      have e2 : spanN p (c :: (l.take (spanN p l + 1) ++ u)) = spanN p (l.take (spanN p l + 1) ++ u) + 1 := by
        conv => lhs; unfold spanN
        rw [List.takeWhile_cons, if_pos hc, List.length_cons]; rfl
      rw [e2, ih]
    · have e : spanN p (c :: l) = 0 := by unfold spanN; rw [List.takeWhile_cons, if_neg hc]; rfl
      rw [e, List.take_succ_cons, List.cons_append]
      unfold spanN
      rw [List.takeWhile_cons, if_neg hc]; rfl
theorem bl_cut (r : ByteArray) (m : Nat) : bl (r.extract 0 m) = (bl r).take m := by rw [bl_extract]; simp
theorem ext_of_bl {a b : ByteArray} (h : bl a = bl b) : a = b := ba_ext h
theorem word_alone {r r' : ByteArray} {v : List UInt8} (hv : Stop v) (h : bl r' = (bl r).take (wordT r).m ++ v) : wordT r' = wordT r := by
  unfold wordT at h ⊢
  simp only at h
  rw [h, span_cut (by decide) _ _ hv]
theorem head_take {l v : List UInt8} {n : Nat} (h1 : 1 ≤ n) (h2 : n ≤ l.length) : (l.take n ++ v).head? = l.head? := by
  cases l with
  | nil => simp at h2; omega
  | cons c l =>
    obtain ⟨n, rfl⟩ : ∃ k, n = k + 1 := ⟨n - 1, by omega⟩
    rfl
theorem headD_take {l v : List UInt8} {n : Nat} (h1 : 1 ≤ n) (h2 : n ≤ l.length) : (l.take n ++ v).headD 0 = l.headD 0 := by
  rw [List.headD_eq_head?_getD, head_take h1 h2, ← List.headD_eq_head?_getD]
theorem num_alone {r r' : ByteArray} {v : List UInt8} (hv : Stop v) (hok : numOk r = true) (h : bl r' = (bl r).take (numT r).m ++ v) : numT r' = numT r := by
  have hok2 := hok
  unfold numOk at hok2
  simp only [Bool.and_eq_true, decide_eq_true_eq] at hok2
  obtain ⟨h1, h18, _⟩ := hok2
  have hkl := spanN_le digB (bl (unsg r))
  have hb := unsg_bl r
  obtain ⟨s1, s2, s3, s4⟩ := unsg_size r
  obtain ⟨t1, t2, t3, t4⟩ := unsg_size r'
  have hm : (numT r).m = (r.size - (unsg r).size) + spanN digB (bl (unsg r)) := by unfold numT; rw [if_pos hok]
  rw [hm] at h
  obtain ⟨K, hK⟩ : ∃ K, spanN digB (bl (unsg r)) = K := ⟨_, rfl⟩
  obtain ⟨D, hD⟩ : ∃ D, bl (unsg r) = D := ⟨_, rfl⟩
  rw [hK] at h h1 hkl
  rw [hD] at hb hkl
  have hneg : negB r' = negB r ∧ bl (unsg r') = D.take K ++ v := by
    cases hn : negB r
    · rw [hn] at hb
      have hb : bl r = D := hb
      have e0 : r.size - (unsg r).size = 0 := by rw [s4 hn]; omega
      rw [e0, Nat.zero_add, hb] at h
      have hn' : negB r' = false := by
        unfold negB at hn ⊢
        rw [h, head_take h1 hkl, ← hb]; exact hn
      refine ⟨hn', ?_⟩
      rw [bl_unsg, hn', h]; rfl
    · rw [hn, if_pos rfl] at hb
      have e0 : r.size - (unsg r).size = 1 := by have := s3 hn; omega
      rw [e0, hb, show 1 + K = K + 1 by omega, List.take_succ_cons, List.cons_append] at h
      have hn' : negB r' = true := by unfold negB; rw [h]; rfl
      refine ⟨hn', ?_⟩
      rw [bl_unsg, hn', if_pos rfl, h]; rfl
  obtain ⟨hn, hu⟩ := hneg
  have hK' : spanN digB (bl (unsg r')) = K := by rw [hu, ← hK, ← hD]; exact span_cut (by decide) _ _ hv
  have hsz : r'.size - (unsg r').size = r.size - (unsg r).size := by
    cases hc : negB r
    · rw [hc] at hn; rw [s4 hc, t4 hn]; omega
    · rw [hc] at hn; have := s3 hc; have := t3 hn; omega
  unfold numT
  have hok' : numOk r' = numOk r := by
    unfold numOk
    rw [hK', hK, hu, headD_take h1 hkl, hD]
  rw [hok', hsz, hK', hn, hu, hK, hD]
  rw [List.take_append_of_le_length (by rw [List.length_take]; omega), List.take_take, Nat.min_self]
theorem inner_of {r r' : ByteArray} {v : List UInt8} {n : Nat} (hr : 0 < r.size) (h : bl r' = (bl r).take (n + 1) ++ v) : bl (inner r') = (bl (inner r)).take n ++ v := by
  rw [bl_inner, bl_inner, h]
  cases hb : bl r with
  | nil => have := bl_len r; rw [hb] at this; simp at this; omega
  | cons c l => rfl
theorem text_alone {r r' : ByteArray} {v : List UInt8} (hr : 0 < r.size) (hok : textOk r = true) (h : bl r' = (bl r).take (textT r).m ++ v) : textT r' = textT r := by
  have hok2 := hok
  unfold textOk at hok2
  simp only [Bool.and_eq_true, decide_eq_true_eq] at hok2
  obtain ⟨h64, hlt, h39⟩ := hok2
  have hm : (textT r).m = spanN textB (bl (inner r)) + 2 := by unfold textT; rw [if_pos hok]
  rw [hm] at h
  have hi := inner_of hr h
  have hl : spanN textB (bl (inner r)) < (bl (inner r)).length := by rw [bl_len]; exact hlt
  have hsp : spanN textB (bl (inner r')) = spanN textB (bl (inner r)) := by rw [hi]; exact span_at_end _ _ hl
  have hsz : spanN textB (bl (inner r)) < (inner r').size := by rw [← bl_len, hi, List.length_append, List.length_take]; omega
  have hg : (bl (inner r')).getD (spanN textB (bl (inner r))) 0 = (bl (inner r)).getD (spanN textB (bl (inner r))) 0 := by
    rw [hi]
    generalize bl (inner r) = I at *
    generalize spanN textB I = K at *
    rw [List.getD_eq_getElem?_getD, List.getD_eq_getElem?_getD, List.getElem?_append_left (by rw [List.length_take]; omega), List.getElem?_take_of_lt (Nat.lt_succ_self K)]
  have hok' : textOk r' = true := by
    unfold textOk
    rw [hsp, hg, decide_eq_true h64, decide_eq_true hsz, h39]; rfl
  have he : (inner r').extract 0 (spanN textB (bl (inner r))) = (inner r).extract 0 (spanN textB (bl (inner r))) := by
    apply ext_of_bl
    rw [bl_cut, bl_cut, hi, List.take_append_of_le_length (by rw [List.length_take]; omega), List.take_take, Nat.min_eq_left (by omega)]
  have e1 : textT r' = ⟨3, spanN textB (bl (inner r')) + 2, 0, (inner r').extract 0 (spanN textB (bl (inner r')))⟩ := if_pos hok'
  have e2 : textT r = ⟨3, spanN textB (bl (inner r)) + 2, 0, (inner r).extract 0 (spanN textB (bl (inner r)))⟩ := if_pos hok
  rw [e1, e2, hsp, he]
theorem bits_alone {r r' : ByteArray} {v : List UInt8} (hv : Stop v) (hr : 0 < r.size) (h16 : spanN hexB (bl (inner r)) = 16) (h : bl r' = (bl r).take (bitsT r).m ++ v) : bitsT r' = bitsT r := by
  have hm : (bitsT r).m = 16 + 1 := by unfold bitsT; rw [if_pos h16]
  rw [hm] at h
  have hi := inner_of hr h
  have hl := spanN_le hexB (bl (inner r))
  rw [h16] at hl
  have hsp : spanN hexB (bl (inner r')) = 16 := by
    rw [hi]
    have := span_cut (p := hexB) (by decide) (bl (inner r)) v hv
    rw [h16] at this
    exact this
  unfold bitsT
  rw [if_pos hsp, if_pos h16, hi, List.take_append_of_le_length (by rw [List.length_take]; omega), List.take_take, Nat.min_self]
theorem sign_alone {r r' : ByteArray} {v : List UInt8} (hv : Stop v) (hr : 0 < r.size) (hs : (bl r).headD 0 ∈ signs) (h : bl r' = (bl r).take (signT r).m ++ v) : signT r' = signT r := by
  have hrl : 0 < (bl r).length := by rw [bl_len]; exact hr
  by_cases h2 : twoB r = true
  · have hm : (signT r).m = 2 := by unfold signT; rw [if_pos hs, if_pos h2]
    rw [hm] at h
    have h2' := h2
    unfold twoB at h2'
    simp only [Bool.and_eq_true, decide_eq_true_eq] at h2'
    obtain ⟨a1, a2, a3⟩ := h2'
    have hl2 : 2 ≤ (bl r).length := by rw [bl_len]; omega
    have hh : (bl r').headD 0 = (bl r).headD 0 := by rw [h]; exact headD_take (by decide) hl2
    have hg : (bl r').getD 1 0 = (bl r).getD 1 0 := by
      rw [h, List.getD_eq_getElem?_getD, List.getD_eq_getElem?_getD, List.getElem?_append_left (by rw [List.length_take]; omega), List.getElem?_take_of_lt (by decide)]
    have hz : 1 < r'.size := by rw [← bl_len, h, List.length_append, List.length_take]; omega
    have h2r : twoB r' = true := by unfold twoB; rw [hg, hh, decide_eq_true hz, decide_eq_true a2, decide_eq_true a3]; rfl
    unfold signT
    rw [hh, if_pos hs, if_pos hs, h2, h2r]
  · have hm : (signT r).m = 1 := by unfold signT; rw [if_pos hs, if_neg h2]
    rw [hm] at h
    have hh : (bl r').headD 0 = (bl r).headD 0 := by rw [h]; exact headD_take (Nat.le_refl _) hrl
    have h2r : twoB r' = false := by
      unfold twoB
      have : (bl r').getD 1 0 ≠ 61 := by
        rw [h]
        cases hb : bl r with
        | nil => rw [hb] at hrl; simp at hrl
        | cons c l =>
          cases v with
          | nil => show (0 : UInt8) ≠ 61; decide
          | cons d v =>
            obtain rfl := hv d rfl
            show (32 : UInt8) ≠ 61
            decide
      rw [decide_eq_false this]; simp
    unfold signT
    rw [hh, if_pos hs, if_pos hs, h2r, if_neg h2]; rfl
/-- A TOKEN ALONE IS ITSELF -/
theorem one_alone {r r' : ByteArray} {v : List UInt8} (hr : 0 < r.size) (hm : (oneT r).m ≠ 0) (hv : Stop v) (h : bl r' = (bl r).take (oneT r).m ++ v) : oneT r' = oneT r ∧ hd r' = hd r := by
  have hh : hd r' = hd r := by
    unfold hd
    rw [h, headD_take (by omega) (by have := oneT_le r; rw [bl_len]; exact this)]
  refine ⟨?_, hh⟩
  have e : oneT r = if lettB (hd r) then wordT r else if digB (hd r) || decide (hd r = 45) then numT r else if hd r = 39 then textT r else if hd r = 35 then bitsT r else signT r := rfl
  have e' : oneT r' = if lettB (hd r) then wordT r' else if digB (hd r) || decide (hd r = 45) then numT r' else if hd r = 39 then textT r' else if hd r = 35 then bitsT r' else signT r' := by rw [← hh]; rfl
  rw [e'] 
  rw [e] at hm h ⊢
  by_cases c1 : lettB (hd r) = true
  · rw [if_pos c1] at hm h ⊢; rw [if_pos c1]
    exact word_alone hv h
  · rw [if_neg c1] at hm h ⊢; rw [if_neg c1]
    by_cases c2 : (digB (hd r) || decide (hd r = 45)) = true
    · rw [if_pos c2] at hm h ⊢; rw [if_pos c2]
      refine num_alone hv ?_ h
      cases hc : numOk r
      · unfold numT at hm; rw [hc] at hm; exact absurd rfl hm
      · rfl
    · rw [if_neg c2] at hm h ⊢; rw [if_neg c2]
      by_cases c3 : hd r = 39
      · rw [if_pos c3] at hm h ⊢; rw [if_pos c3]
        refine text_alone hr ?_ h
        cases hc : textOk r
        · unfold textT at hm; rw [hc] at hm; exact absurd rfl hm
        · rfl
      · rw [if_neg c3] at hm h ⊢; rw [if_neg c3]
        by_cases c4 : hd r = 35
        · rw [if_pos c4] at hm h ⊢; rw [if_pos c4]
          refine bits_alone hv hr ?_ h
          apply Classical.byContradiction
          intro hc
          unfold bitsT at hm; rw [if_neg hc] at hm; exact hm rfl
        · rw [if_neg c4] at hm h ⊢; rw [if_neg c4]
          refine sign_alone hv hr ?_ h
          apply Classical.byContradiction
          intro hc
          unfold signT at hm; rw [if_neg hc] at hm; exact hm rfl
/-- a token that stands at a place -/
def GoodT (s : ByteArray) (x : Tok) : Prop := ∃ a, a < s.size ∧ blankB (hd (rst s a)) = false ∧ (oneT (rst s a)).m ≠ 0 ∧ x = tokAt s a
theorem scanF_good (s : ByteArray) : ∀ (f a : Nat) (T : List Tok), (∀ x ∈ T, GoodT s x) → (scanF s f a T).e = 0 → ∃ (T' : List Tok) (y : Tok), (scanF s f a T).T = T' ++ [y] ∧ ∀ x ∈ T', GoodT s x
  | 0, a, T, _, h => by unfold scanF at h; cases h
  | f + 1, a, T, hT, h => by
    unfold scanF at h ⊢
    by_cases h1 : s.size ≤ a
    · rw [if_pos h1] at h ⊢
      exact ⟨T, _, rfl, hT⟩
    · rw [if_neg h1] at h ⊢
      by_cases h2 : blankB (hd (rst s a)) = true
      · rw [if_pos h2] at h ⊢
        exact scanF_good s f _ T hT h
      · rw [if_neg h2] at h ⊢
        by_cases h3 : (oneT (rst s a)).m = 0
        · rw [if_pos h3] at h; cases h
        · rw [if_neg h3] at h ⊢
          refine scanF_good s f _ _ (fun x hx => ?_) h
          rcases List.mem_append.1 hx with hx | hx
          · exact hT x hx
          · obtain rfl := List.mem_singleton.1 hx
            exact ⟨a, by omega, by simpa using h2, h3, rfl⟩
theorem scan_good {s : ByteArray} {L : List Tok} (hL : (scanO s).T = L) (h : (scanO s).e = 0) {i : Nat} (hi : i + 1 < L.length) : GoodT s L[i] := by
  have h' := h
  unfold scanO at h' hL
  split at h'
  · cases h'
  · rename_i hz
    rw [if_neg hz] at hL
    obtain ⟨T', y, e, hg⟩ := scanF_good s _ _ _ (fun x hx => by cases hx) h'
    rw [hL] at e
    subst e
    rw [List.length_append, List.length_singleton] at hi
    rw [List.getElem_append_left (by omega)]
    exact hg _ (List.getElem_mem _)
theorem stop_nil : Stop [] := fun c h => by cases h
theorem stop_32 (l : List UInt8) : Stop (32 :: l) := fun c h => by simpa using h.symm
theorem bl_rst2 (s : ByteArray) (a : Nat) : bl (rst s a) = (bl s).drop a := bl_rst s a
theorem scan_two {r1 r2 X Y : ByteArray} (z1 : 0 < r1.size) (z2 : 0 < r2.size) (m1 : (oneT r1).m ≠ 0) (m2 : (oneT r2).m ≠ 0) (b1 : blankB (hd r1) = false) (b2 : blankB (hd r2) = false) (hX : X = r1.extract 0 (oneT r1).m) (hY : Y = r2.extract 0 (oneT r2).m) (hz : X.size + Y.size ≤ 4000) :
    scanO (X ++ ⟨#[32]⟩ ++ Y) = ⟨[⟨(oneT r1).k, 0, X, (oneT r1).n, (oneT r1).s⟩, ⟨(oneT r2).k, X.size + 1, Y, (oneT r2).n, (oneT r2).s⟩, ⟨0, X.size + 1 + Y.size, ⟨#[]⟩, 0, ⟨#[]⟩⟩], 0, 0⟩ := by
  have l1 := oneT_le r1
  have l2 := oneT_le r2
  have sX : X.size = (oneT r1).m := by rw [hX, ByteArray.size_extract]; omega
  have sY : Y.size = (oneT r2).m := by rw [hY, ByteArray.size_extract]; omega
  have bX : bl X = (bl r1).take (oneT r1).m := by rw [hX, bl_cut]
  have bY : bl Y = (bl r2).take (oneT r2).m := by rw [hY, bl_cut]
  obtain ⟨W, hW⟩ : ∃ W, X ++ ⟨#[32]⟩ ++ Y = W := ⟨_, rfl⟩
  have bW : bl W = bl X ++ (32 :: bl Y) := by rw [← hW, bl_app, bl_app, List.append_assoc]; rfl
  have sW : W.size = X.size + 1 + Y.size := by rw [← hW, ByteArray.size_append, ByteArray.size_append]; rfl
  have r0 : bl (rst W 0) = (bl r1).take (oneT r1).m ++ (32 :: bl Y) := by rw [bl_rst2, List.drop_zero, bW, bX]
  have rm : bl (rst W X.size) = 32 :: bl Y := by rw [bl_rst2, bW, List.drop_append_of_le_length (by rw [bl_len]; exact Nat.le_refl _), List.drop_of_length_le (by rw [bl_len]; exact Nat.le_refl _)]; rfl
  have rn : bl (rst W (X.size + 1)) = (bl r2).take (oneT r2).m ++ [] := by rw [List.append_nil, ← bY, bl_rst2, ← List.drop_drop, ← bl_rst2, rm]; rfl
  obtain ⟨o1, h1⟩ := one_alone z1 m1 (stop_32 _) r0
  obtain ⟨o2, h2⟩ := one_alone z2 m2 stop_nil rn
  have hm : hd (rst W X.size) = 32 := by unfold hd; rw [rm]; rfl
  have e1 : (rst W 0).extract 0 (oneT r1).m = X := by
    apply ext_of_bl
    rw [bl_cut, r0, List.take_append_of_le_length (by rw [List.length_take, bl_len]; omega), List.take_take, Nat.min_self, bX]
  have e2 : (rst W (X.size + 1)).extract 0 (oneT r2).m = Y := by
    apply ext_of_bl
    rw [bl_cut, rn, List.append_nil, List.take_take, Nat.min_self, bY]
  have t1 : tokAt W 0 = ⟨(oneT r1).k, 0, X, (oneT r1).n, (oneT r1).s⟩ := by unfold tokAt; rw [o1, e1]
  have t2 : tokAt W (X.size + 1) = ⟨(oneT r2).k, X.size + 1, Y, (oneT r2).n, (oneT r2).s⟩ := by unfold tokAt; rw [o2, e2]
  rw [hW]
  unfold scanO
  rw [if_neg (by omega)]
  obtain ⟨f, hf⟩ : ∃ f, W.size + 1 = f + 4 := ⟨W.size - 3, by omega⟩
  rw [hf]
  unfold scanF
  rw [if_neg (by omega), if_neg (by rw [h1, b1]; decide), o1, if_neg m1, t1, Nat.zero_add, ← sX]
  unfold scanF
  rw [if_neg (by omega), if_pos (by rw [hm]; decide)]
  unfold scanF
  rw [if_neg (by omega), if_neg (by rw [h2, b2]; decide), o2, if_neg m2, t2, ← sY]
  unfold scanF
  rw [if_pos (by omega)]
  rfl
theorem scan_pair {s t : ByteArray} {L M : List Tok} (hL : (scanO s).T = L) (hM : (scanO t).T = M) (hs : (scanO s).e = 0) (ht : (scanO t).e = 0) {i k : Nat} (hi : i + 1 < L.length) (hk : k + 1 < M.length) (hz : L[i].t.size + M[k].t.size ≤ 4000) :
    scanO (L[i].t ++ ⟨#[32]⟩ ++ M[k].t) = ⟨[⟨L[i].k, 0, L[i].t, L[i].n, L[i].s⟩, ⟨M[k].k, L[i].t.size + 1, M[k].t, M[k].n, M[k].s⟩, ⟨0, L[i].t.size + 1 + M[k].t.size, ⟨#[]⟩, 0, ⟨#[]⟩⟩], 0, 0⟩ := by
  obtain ⟨a, ha, b1, m1, e1⟩ := scan_good hL hs hi
  obtain ⟨b, hb, b2, m2, e2⟩ := scan_good hM ht hk
  generalize L[i] = x at *
  generalize M[k] = y at *
  subst e1; subst e2
  exact scan_two (r1 := rst s a) (r2 := rst t b) (by rw [rst_size]; omega) (by rw [rst_size]; omega) m1 m2 b1 b2 rfl rfl hz
end Go.Proofs.YtffneogphgodnaaDoor
