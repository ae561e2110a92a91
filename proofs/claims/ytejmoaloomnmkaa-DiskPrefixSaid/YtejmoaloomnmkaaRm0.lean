/-
  ROOM, PLAIN: the bytes of all files stay within the bound, whatever is kept of a row; names stay names.
-/
import Derived.Test.YtejmoaloomnmkaaFil
import Derived.Test.YtejmoaloomnmkaaSlaw
namespace Go.Proofs.Ytejmoaloomnmkaa
open Go.RowKit
theorem mem_get {fs : Fm} (hu : Uniq fs) {s : Nm} {l : List UInt8} : (s, l) ∈ fs ↔ get fs s = some l := by
  induction fs with
  | nil => simp [get]
  | cons p fs ih =>
    have hp := List.pairwise_cons.1 hu
    have ih := ih hp.2
    unfold get at ih ⊢
    rw [List.find?_cons, List.mem_cons]
    by_cases h : p.1 = s
    · rw [decide_eq_true h]
      simp only [Option.map_some, Option.some.injEq]
      constructor
      · rintro (e | e)
        · rw [← e]
        · exact absurd h (hp.1 _ e)
      · intro e; left; rw [← e, ← h]
    · rw [decide_eq_false h]
      simp only
      rw [← ih]
      constructor
      · rintro (e | e)
        · exact absurd (by rw [← e]) h
        · exact e
      · exact Or.inr
theorem uniq_nodup {fs : Fm} (hu : Uniq fs) : fs.Nodup := hu.imp fun h e => h (by rw [e])
theorem perm_alike {A B : Fm} (ha : Uniq A) (hb : Uniq B) (h : Alike A B) : A.Perm B := (List.perm_ext_iff_of_nodup (uniq_nodup ha) (uniq_nodup hb)).2 fun ⟨s, l⟩ => by rw [mem_get ha, mem_get hb, h s]
theorem sz_alike {A B : Fm} (ha : Uniq A) (hb : Uniq B) (h : Alike A B) : sz A = sz B := ((perm_alike ha hb h).map _).sum_nat
theorem uniq_doF {fs : Fm} (hu : Uniq fs) (c : Chg) : Uniq (c.doF fs) := by
  cases c with
  | put f a s => exact uniq_put hu _ _
  | trim f n => exact uniq_put hu _ _
  | move f t => exact uniq_put (uniq_del hu _) _ _
  | drop f => exact uniq_del hu _
theorem uniq_doAll {fs : Fm} (hu : Uniq fs) (r : List Chg) : Uniq (doAll fs r) := by
  induction r generalizing fs with
  | nil => exact hu
  | cons c r ih => exact ih (uniq_doF hu c)
theorem uniq_torn {fs : Fm} (hu : Uniq fs) (c : Chg) (k : Int) : Uniq (tornF fs c k) := by
  cases c with
  | put f a s =>
    unfold tornF
    simp only
    split
    · exact uniq_doF hu _
    · exact hu
  | trim f n => exact hu
  | move f t => exact hu
  | drop f => exact hu
theorem uniq_keep {fs : Fm} (hu : Uniq fs) (r : List Chg) (k : Int) : Uniq (keepF fs r k) := by
  induction r generalizing fs k with
  | nil => exact hu
  | cons c r ih =>
    rw [keepF_cons]
    split
    · exact uniq_torn hu c k
    · exact ih (uniq_doF hu c) _
/-- at every place of a row the files are of at most n bytes -/
def Bds (n : Nat) : Fm → List Chg → Prop
  | fs, [] => sz fs ≤ n
  | fs, c :: r => sz fs ≤ n ∧ Bds n (c.doF fs) r
theorem Bds.start {n : Nat} {fs : Fm} {r : List Chg} (h : Bds n fs r) : sz fs ≤ n := by
  cases r with
  | nil => exact h
  | cons c r => exact h.1
theorem Bds.stop {n : Nat} {fs : Fm} {r : List Chg} (h : Bds n fs r) : sz (doAll fs r) ≤ n := by
  induction r generalizing fs with
  | nil => exact h
  | cons c r ih => exact ih h.2
theorem Bds.append {n : Nat} {fs : Fm} {r : List Chg} {c : Chg} (h : Bds n fs r) (hc : sz (c.doF (doAll fs r)) ≤ n) : Bds n fs (r ++ [c]) := by
  induction r generalizing fs with
  | nil => exact ⟨h, hc⟩
  | cons d r ih => exact ⟨h.1, ih h.2 hc⟩
theorem sz_torn {n : Nat} {fs : Fm} (hu : Uniq fs) {c : Chg} (hc : c.may fs) (h1 : sz fs ≤ n) (h2 : sz (c.doF fs) ≤ n) (k : Int) : sz (tornF fs c k) ≤ n := by
  cases c with
  | put f a s =>
    unfold tornF
    simp only
    split
    · have e1 := sz_put hu f (splice (gl fs f) a (bl s))
      have e2 := sz_put hu f (splice (gl fs f) a (bl (s.extract 0 (k - 1).toNat)))
      have l1 := splice_len (l := gl fs f) (b := bl s) hc.2.1
      have l2 := splice_len (l := gl fs f) (b := bl (s.extract 0 (k - 1).toNat)) hc.2.1
      rw [bl_len] at l1 l2
      rw [ByteArray.size_extract] at l2
      simp only [Chg.doF] at h2 ⊢
      omega
    · exact h1
  | trim f n => exact h1
  | move f t => exact h1
  | drop f => exact h1
theorem Bds.keep {n : Nat} {fs : Fm} {r : List Chg} (hu : Uniq fs) (hm : mayAll fs r) (h : Bds n fs r) (k : Int) : sz (keepF fs r k) ≤ n := by
  induction r generalizing fs k with
  | nil => exact h
  | cons c r ih =>
    rw [keepF_cons]
    split
    · exact sz_torn hu hm.1 h.1 h.2.start k
    · exact ih (uniq_doF hu c) hm.2 h.2 _
/-! ### names -/
def Ns (fs : Fm) : Prop := ∀ s, get fs s ≠ none → nameB s = true
def Chg.Nmd : Chg → Prop
  | .put f _ _ => nameB f = true
  | .trim f _ => nameB f = true
  | .move f t => nameB f = true ∧ nameB t = true
  | .drop f => nameB f = true
theorem Ns.put {fs : Fm} (h : Ns fs) {f : Nm} (hf : nameB f = true) (l : List UInt8) : Ns (put fs f l) := fun s hs => by
  by_cases e : s = f
  · rw [e]; exact hf
  · rw [get_put_other _ e] at hs; exact h s hs
theorem Ns.del {fs : Fm} (h : Ns fs) (f : Nm) : Ns (del fs f) := fun s hs => by
  by_cases e : s = f
  · rw [e, get_del_same] at hs; exact absurd rfl hs
  · rw [get_del_other e] at hs; exact h s hs
theorem Ns.doF {fs : Fm} (h : Ns fs) {c : Chg} (hc : c.Nmd) : Ns (c.doF fs) := by
  cases c with
  | put f a s => exact h.put hc _
  | trim f n => exact h.put hc _
  | move f t => exact (h.del _).put hc.2 _
  | drop f => exact h.del _
theorem Ns.doAll {fs : Fm} {r : List Chg} (h : Ns fs) (hr : ∀ c ∈ r, c.Nmd) : Ns (doAll fs r) := by
  induction r generalizing fs with
  | nil => exact h
  | cons c r ih => exact ih (h.doF (hr c List.mem_cons_self)) (fun d hd => hr d (List.mem_cons_of_mem _ hd))
theorem Ns.keep {fs : Fm} {r : List Chg} (h : Ns fs) (hr : ∀ c ∈ r, c.Nmd) (k : Int) : Ns (keepF fs r k) := by
  induction r generalizing fs k with
  | nil => exact h
  | cons c r ih =>
    have hc := hr c List.mem_cons_self
    rw [keepF_cons]
    split
    · cases c with
      | put f a s =>
        unfold tornF
        simp only
        split
        · exact h.doF (c := .put f a (s.extract 0 (k - 1).toNat)) hc
        · exact h
      | trim f n => exact h
      | move f t => exact h
      | drop f => exact h
    · exact ih (h.doF hc) (fun d hd => hr d (List.mem_cons_of_mem _ hd)) _
theorem names_small {fs : Fm} (h : Ns fs) : ∀ s ∈ namesOf fs, nameB s = true ∧ s.size ≤ 64 := by
  intro s hs
  unfold namesOf at hs
  obtain ⟨x, hx, rfl⟩ := List.mem_map.1 hs
  have hk := mem_keys.1 (List.mem_mergeSort.1 hx)
  have := h ⟨x.toArray⟩ (fun e => by rw [e] at hk; cases hk)
  exact ⟨this, (nameB_size this).2⟩
/-- a disk whose bytes stay within a bound, all of whose names are names -/
structure RI (n : Nat) (S : St) : Prop where
  b : Bds n S.sure S.row
  r : S.room = n
  s : Ns S.sure
  w : ∀ c ∈ S.row, c.Nmd
theorem RI.now {n : Nat} {S : St} (h : RI n S) (ok : Ok S) (u1 : Uniq S.sure) (u2 : Uniq S.now) : sz S.now ≤ n ∧ Ns S.now := by
  refine ⟨?_, fun s hs => ?_⟩
  · rw [sz_alike u2 (uniq_doAll u1 _) ok.now]; exact h.b.stop
  · rw [ok.now s] at hs; exact (h.s.doAll h.w) s hs
theorem Counted.ri {n : Nat} {S S' : St} {x : Int} (h : Counted S S' x) (k : RI n S) (u : Uniq S.sure) (hm : mayAll S.sure S.row) : RI n S' := by
  rcases h with ⟨_, _, rfl⟩ | ⟨_, _, N, rfl, _⟩
  · exact ⟨k.b, k.r, k.s, k.w⟩
  · exact ⟨k.b.keep u hm _, k.r, k.s.keep k.w _, fun c hc => by simp at hc⟩
theorem Step.ri {n : Nat} {a : Act} {S S' : St} {x : Int} (h : Step a S S' x) (k : RI n S) (ok : Ok S) (u1 : Uniq S.sure) (u2 : Uniq S.now) (h8 : a.kd ≠ 8) : RI n S' := by
  cases h with
  | no => exact k
  | chg c S' x hd hc hn hn2 hm hz h =>
    refine Counted.ri h ⟨k.b.append ?_, k.r, k.s, fun d hd => ?_⟩ u1 (mayAll_append ok.may (ok.now.may hm))
    · have e1 := sz_alike (uniq_doF u2 c) (uniq_doF (uniq_doAll u1 _) c) (ok.now.doF c)
      have e2 := (k.now ok u1 u2).1
      have e3 := hz (by rw [k.r]; exact Int.natCast_nonneg _)
      rw [k.r] at e3
      omega
    · rcases List.mem_append.1 hd with hd | hd
      · exact k.w d hd
      · obtain rfl := List.mem_singleton.1 hd
        cases d with
        | put f n s => show nameB f = true; rw [show f = a.nm from hc.2.1]; exact hn
        | trim f n => show nameB f = true; rw [show f = a.nm from hc.2.1]; exact hn
        | move f t => exact ⟨by rw [hc.2.1]; exact hn, by rw [hc.2.2]; exact hn2 hc.1⟩
        | drop f => show nameB f = true; rw [show f = a.nm from hc.2]; exact hn
  | sync S1 S' x hd hk h h' =>
    have k1 := Counted.ri h k u1 ok.may
    rw [h']
    split
    · exact ⟨k.b.stop, k1.r, k.s.doAll k.w, fun c hc => by simp at hc⟩
    · exact k1
  | fail N hd hk hN => exact ⟨k.b.keep u1 ok.may _, k.r, k.s.keep k.w _, fun c hc => by simp at hc⟩
  | gone => exact k
  | trip => exact ⟨k.b, k.r, k.s, k.w⟩
  | wake => exact ⟨k.b, k.r, k.s, k.w⟩
  | room hk => exact absurd hk h8
  | other => exact k
/-- only what has no room is told so, and it changes nothing -/
theorem Step.full {a : Act} {S S' : St} {x : Int} (h : Step a S S' x) (h7 : x = 7) : S' = S ∧ a.kd = 0 := by
  cases h with
  | no x h hk h7' h8 => exact ⟨rfl, h7' h7⟩
  | chg c S' x hd hc hn hn2 hm hz h => rcases h with ⟨_, e, _⟩ | ⟨_, e, _⟩ <;> omega
  | sync S1 S' x hd hk h h' => rcases h with ⟨_, e, _⟩ | ⟨_, e, _⟩ <;> omega
  | fail => cases h7
  | gone => cases h7
  | trip => cases h7
  | wake => cases h7
  | room => cases h7
  | other => cases h7
theorem ri0 (n : Nat) : RI n { st0 with room := n } := ⟨Nat.zero_le _, rfl, fun s hs => absurd rfl hs, fun c hc => by cases hc⟩
end Go.Proofs.Ytejmoaloomnmkaa
