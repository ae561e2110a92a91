/-
  FILES IN THE DOCUMENT's OWN ORDER, PLAIN; what is kept of a row: a beginning, the last change of which may be torn.
-/
import Derived.Test.YtejmoaloomnmkaaRm0
import Derived.Sort.Walk0
namespace Go.Proofs.Ytejmoaloomnmkaa
open Go.RowKit
/-- the files, rising by their names -/
def filesF (fs : Fm) : List FT := (namesOf fs).map fun s => ⟨s, str (gl fs s)⟩
theorem mem_names {fs : Fm} {s : Nm} : s ∈ namesOf fs ↔ (get fs s).isSome = true := by
  unfold namesOf
  rw [List.mem_map]
  constructor
  · rintro ⟨x, hx, rfl⟩
    exact mem_keys.1 (List.mem_mergeSort.1 hx)
  · intro h
    exact ⟨bl s, List.mem_mergeSort.2 (mem_keys.2 (by rw [nm_bl]; exact h)), nm_bl s⟩
theorem filesOf_up {S : St} (hd : S.down = false) (hn : Ns S.now) : filesOf S = filesF S.now := by
  unfold filesOf filesF
  rw [hd]
  refine List.map_congr_left fun s hs => ?_
  have h1 := mem_names.1 hs
  cases hg : get S.now s with
  | none => rw [hg] at h1; cases h1
  | some l =>
    have := readV_up hd (hn s (by rw [hg]; simp)) hg
    rw [this]
    unfold gl
    rw [hg]; rfl
theorem names_alike {A B : Fm} (ha : Uniq A) (hb : Uniq B) (h : Alike A B) : namesOf A = namesOf B := by
  unfold namesOf
  rw [mergeSort_of_perm (show (keysF A).Perm (keysF B) from (perm_alike ha hb h).map _)]
theorem filesF_alike {A B : Fm} (ha : Uniq A) (hb : Uniq B) (h : Alike A B) : filesF A = filesF B := by
  unfold filesF
  rw [names_alike ha hb h]
  exact List.map_congr_left fun s _ => by rw [h.gl s]
theorem filesF_len (fs : Fm) : (filesF fs).length = fs.length := by unfold filesF; rw [List.length_map, namesOf_len]
theorem filesF_mem {fs : Fm} {x : FT} (h : x ∈ filesF fs) : x = ⟨x.n, str (gl fs x.n)⟩ := by
  unfold filesF at h
  obtain ⟨s, _, rfl⟩ := List.mem_map.1 h
  rfl
theorem names_perm (fs : Fm) : (namesOf fs).Perm (fs.map (·.1)) := by
  unfold namesOf
  have h := (List.mergeSort_perm (keysF fs) leB).map (fun l => (⟨l.toArray⟩ : Nm))
  refine h.trans (List.Perm.of_eq ?_)
  unfold keysF
  rw [List.map_map]
  exact List.map_congr_left fun p _ => nm_bl p.1
def toFT (p : Nm × List UInt8) : FT := ⟨p.1, str p.2⟩
theorem filesF_perm {fs : Fm} (hu : Uniq fs) : (filesF fs).Perm (fs.map toFT) := by
  unfold filesF
  refine ((names_perm fs).map _).trans (List.Perm.of_eq ?_)
  rw [List.map_map]
  refine List.map_congr_left fun p hp => ?_
  have := (mem_get hu (s := p.1) (l := p.2)).1 hp
  show (⟨p.1, str (gl fs p.1)⟩ : FT) = ⟨p.1, str p.2⟩
  unfold gl
  rw [this]; rfl
/-- the order of names -/
def leF (a b : FT) : Bool := leB (bl a.n) (bl b.n)
theorem leF_trans (a b c : FT) (h1 : leF a b = true) (h2 : leF b c = true) : leF a c = true := by
  unfold leF leB at *
  simp only [decide_eq_true_eq] at *
  exact List.le_trans h1 h2
theorem filesF_sorted (fs : Fm) : (filesF fs).Pairwise (fun a b => leF a b = true) := by
  unfold filesF namesOf
  rw [List.map_map, List.pairwise_map]
  have tr : ∀ a b c : List UInt8, leB a b = true → leB b c = true → leB a c = true := fun a b c h1 h2 => by simp only [leB, decide_eq_true_eq] at *; exact List.le_trans h1 h2
  have to : ∀ a b : List UInt8, (leB a b || leB b a) = true := fun a b => by simp only [leB, Bool.or_eq_true, decide_eq_true_eq]; exact List.le_total a b
  refine (List.pairwise_mergeSort tr to (keysF fs)).imp fun {a b} h => ?_
  show leB (bl (⟨a.toArray⟩ : Nm)) (bl (⟨b.toArray⟩ : Nm)) = true
  rw [bl_nm, bl_nm]; exact h
/-- whether a name stands ahead of another one -/
def ltN (a b : Nm) : Bool := Op.bytesLess a.toList b.toList
theorem ltN_bl (a b : Nm) : ltN a b = decide (bl a < bl b) := by unfold ltN; rw [bytesLess_eq, ByteArray.toList_eq, ByteArray.toList_eq]; rfl
theorem ltN_yes {a b : Nm} (h : ltN a b = true) : leB (bl a) (bl b) = true := by
  rw [ltN_bl, decide_eq_true_eq] at h
  unfold leB
  rw [decide_eq_true_eq]
  exact Std.le_of_lt h
theorem ltN_no {a b : Nm} (h : ltN a b = false) : leB (bl b) (bl a) = true := by
  rw [ltN_bl, decide_eq_false_iff_not] at h
  unfold leB
  rw [decide_eq_true_eq]
  exact Std.not_lt.1 h
/-! ### the document's functions, plain -/
def getL (L : List FT) (s : Nm) : ByteArray := ((L.find? fun x => decide (x.n = s)).map (·.s)).getD ⟨#[]⟩
def withoutL (L : List FT) (s : Nm) : List FT := L.filter fun x => !decide (x.n = s)
def withL (f : FT) : Bool → List FT → List FT
  | inn, [] => if inn then [] else [f]
  | inn, x :: l => (if !inn && ltN f.n x.n then [f] else []) ++ ((if decide (x.n = f.n) then [] else [x]) ++ withL f (inn || ltN f.n x.n) l)
theorem with_in {f : FT} : ∀ {L : List FT}, (∀ x ∈ L, x.n ≠ f.n) → withL f true L = L
  | [], _ => rfl
  | x :: l, h => by
    unfold withL
    rw [decide_eq_false (h x List.mem_cons_self)]
    simp only [Bool.not_true, Bool.false_and, Bool.true_or]
    rw [with_in (fun y hy => h y (List.mem_cons_of_mem _ hy))]
    rfl
theorem with_perm {f : FT} : ∀ {L : List FT}, (∀ x ∈ L, x.n ≠ f.n) → (withL f false L).Perm (f :: L)
  | [], _ => List.Perm.refl _
  | x :: l, h => by
    unfold withL
    rw [decide_eq_false (h x List.mem_cons_self)]
    cases hl : ltN f.n x.n
    · simp only [Bool.not_false, Bool.and_false, Bool.or_false]
      exact ((with_perm (fun y hy => h y (List.mem_cons_of_mem _ hy))).cons x).trans (List.Perm.swap f x l)
    · simp only [Bool.not_false, Bool.and_true, Bool.or_true]
      rw [with_in (fun y hy => h y (List.mem_cons_of_mem _ hy))]
      exact List.Perm.refl _
theorem with_sorted {f : FT} : ∀ {L : List FT}, (∀ x ∈ L, x.n ≠ f.n) → L.Pairwise (fun a b => leF a b = true) → (withL f false L).Pairwise (fun a b => leF a b = true)
  | [], _, _ => List.pairwise_singleton _ _
  | x :: l, h, hs => by
    have hh := fun y hy => h y (List.mem_cons_of_mem _ hy)
    have hs' := List.pairwise_cons.1 hs
    unfold withL
    rw [decide_eq_false (h x List.mem_cons_self)]
    cases hl : ltN f.n x.n
    · simp only [Bool.not_false, Bool.and_false, Bool.or_false]
      refine List.pairwise_cons.2 ⟨fun y hy => ?_, with_sorted hh hs'.2⟩
      rcases List.mem_cons.1 ((with_perm hh).mem_iff.1 hy) with rfl | hy
      · exact ltN_no hl
      · exact hs'.1 y hy
    · simp only [Bool.not_false, Bool.and_true, Bool.or_true]
      rw [with_in hh]
      refine List.pairwise_cons.2 ⟨fun y hy => ?_, hs⟩
      have h1 : leF f x = true := ltN_yes hl
      rcases List.mem_cons.1 hy with rfl | hy
      · exact h1
      · exact leF_trans _ _ _ h1 (hs'.1 y hy)
theorem without_ne {L : List FT} {s : Nm} : ∀ x ∈ withoutL L s, x.n ≠ s := fun x hx => by
  have := (List.mem_filter.1 hx).2
  simpa using this
/-- a file is laid among the others -/
theorem with_put {fs : Fm} (hu : Uniq fs) (f : Nm) (l : List UInt8) : withL ⟨f, str l⟩ false (withoutL (filesF fs) f) = filesF (put fs f l) := by
  have hP : (withL ⟨f, str l⟩ false (withoutL (filesF fs) f)).Perm (filesF (put fs f l)) := by
    refine (with_perm without_ne).trans (List.Perm.trans ?_ (filesF_perm (uniq_put hu f l)).symm)
    unfold put
    rw [List.map_cons]
    refine List.Perm.cons _ ?_
    unfold withoutL
    refine ((filesF_perm hu).filter _).trans (List.Perm.of_eq ?_)
    rw [List.filter_map]
    unfold del
    congr 1
    refine List.filter_congr fun p _ => ?_
    show (!decide (p.1 = f)) = decide (p.1 ≠ f)
    rw [decide_not]
  refine List.Perm.eq_of_pairwise (le := fun a b => leF a b = true) (fun a b ha hb h1 h2 => ?_) (with_sorted without_ne ((filesF_sorted fs).filter _)) (filesF_sorted _) hP
  have e : a.n = b.n := by
    unfold leF leB at h1 h2
    simp only [decide_eq_true_eq] at h1 h2
    have := List.le_antisymm h1 h2
    rw [← nm_bl a.n, ← nm_bl b.n, this]
  rw [filesF_mem (hP.mem_iff.1 ha), filesF_mem hb, e]
theorem find_yes {g : Nm → ByteArray} {s : Nm} : ∀ (K : List Nm), s ∈ K → ((K.map fun x => (⟨x, g x⟩ : FT)).find? fun x => decide (x.n = s)).map (·.s) = some (g s)
  | x :: K, h => by
    rw [List.map_cons, List.find?_cons]
    by_cases e : x = s
    · subst e
      simp
    · rw [show (decide ((⟨x, g x⟩ : FT).n = s)) = false from decide_eq_false e]
      simp only
      refine find_yes K ?_
      rcases List.mem_cons.1 h with h | h
      · exact absurd h.symm e
      · exact h
theorem find_not {g : Nm → ByteArray} {s : Nm} : ∀ (K : List Nm), s ∉ K → ((K.map fun x => (⟨x, g x⟩ : FT)).find? fun x => decide (x.n = s)).map (·.s) = none
  | [], _ => rfl
  | x :: K, h => by
    rw [List.map_cons, List.find?_cons]
    have e : x ≠ s := fun e => h (by rw [e]; exact List.mem_cons_self)
    rw [show (decide ((⟨x, g x⟩ : FT).n = s)) = false from decide_eq_false e]
    simp only
    exact find_not K (fun hh => h (List.mem_cons_of_mem _ hh))
theorem getL_files (fs : Fm) (s : Nm) : getL (filesF fs) s = str (gl fs s) := by
  unfold getL filesF
  cases hg : get fs s with
  | some l =>
    rw [find_yes (g := fun s => str (gl fs s)) _ (mem_names.2 (by rw [hg]; rfl))]
    rfl
  | none =>
    rw [find_not (g := fun s => str (gl fs s)) _ (fun h => by rw [mem_names, hg] at h; cases h)]
    unfold gl
    rw [hg]; rfl
/-! ### what is kept -/
theorem take_cons (c : Chg) (r : List Chg) (j : Nat) : (c :: r).take (j + 1) = c :: r.take j := rfl
theorem keep_cases (fs : Fm) (r : List Chg) (k : Int) : (∃ j, j ≤ r.length ∧ keepF fs r k = doAll fs (r.take j)) ∨
    (∃ (j : Nat) (_ : j < r.length) (f : Nm) (a : Nat) (s : ByteArray) (n : Nat), r[j] = .put f a s ∧ n < s.size ∧ keepF fs r k = (Chg.put f a (s.extract 0 n)).doF (doAll fs (r.take j))) := by
  induction r generalizing fs k with
  | nil => exact .inl ⟨0, Nat.le_refl _, rfl⟩
  | cons c r ih =>
    rw [keepF_cons]
    by_cases hk : k < c.cost
    · rw [if_pos hk]
      cases c with
      | put f a s =>
        unfold tornF
        simp only
        by_cases h0 : 0 < k
        · rw [if_pos h0]
          refine .inr ⟨0, Nat.zero_lt_succ _, f, a, s, (k - 1).toNat, rfl, ?_, rfl⟩
          unfold Chg.cost at hk
          simp only at hk
          omega
        · rw [if_neg h0]; exact .inl ⟨0, Nat.zero_le _, rfl⟩
      | trim f n => exact .inl ⟨0, Nat.zero_le _, rfl⟩
      | move f t => exact .inl ⟨0, Nat.zero_le _, rfl⟩
      | drop f => exact .inl ⟨0, Nat.zero_le _, rfl⟩
    · rw [if_neg hk]
      rcases ih (c.doF fs) (k - c.cost) with ⟨j, hj, e⟩ | ⟨j, hj, f, a, s, n, hc, hn, e⟩
      · exact .inl ⟨j + 1, Nat.succ_le_succ hj, e⟩
      · exact .inr ⟨j + 1, Nat.succ_lt_succ hj, f, a, s, n, hc, hn, e⟩
theorem keep_all (fs : Fm) (r : List Chg) (k : Int) (h : ∀ c ∈ r, c.cost ≤ 3001) (hk : (r.length : Int) * 3001 < k) : keepF fs r k = doAll fs r := by
  induction r generalizing fs k with
  | nil => rfl
  | cons c r ih =>
    have hc := h c List.mem_cons_self
    rw [List.length_cons] at hk
    rw [keepF_cons, if_neg (by omega)]
    exact ih (c.doF fs) (k - c.cost) (fun d hd => h d (List.mem_cons_of_mem _ hd)) (by omega)
end Go.Proofs.Ytejmoaloomnmkaa
