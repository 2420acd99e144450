/-
  What an edit makes of files, as plain mathematics: the reference's way and the code's are one. No program here.
-/
import Derived.Test.YteglddggjkibcaaFCrs
namespace Go.Proofs.Yteglddggjkibcaa
open Go.RowKit

structure St where
  files : List Itm
  next : Nat
  fl : Nat
abbrev St0 : St := ⟨[], 0, 0⟩
structure Ed where
  add : List Itm
  del : List (List UInt8)
  next : Nat
  fl : Nat
/-- One put at its place. -/
def insI : List Itm → Itm → List Itm
  | [], x => [x]
  | y :: l, x => if cmpI y x < 0 then y :: insI l x else x :: y :: l
theorem insI_perm (l : List Itm) (x : Itm) : (insI l x).Perm (x :: l) := by
  induction l with
  | nil => exact List.Perm.refl _
  | cons y l ih =>
    rw [insI]
    split
    · exact (ih.cons y).trans (List.Perm.swap x y l)
    · exact List.Perm.refl _
theorem insI_srt {l : List Itm} (h : Srt l) (x : Itm) : Srt (insI l x) := by
  induction l with
  | nil => exact List.pairwise_singleton _ _
  | cons y l ih =>
    obtain ⟨h1, h2⟩ := List.pairwise_cons.1 h
    rw [insI]
    split
    · rename_i hlt
      refine List.pairwise_cons.2 ⟨fun z hz => ?_, ih h2⟩
      rcases List.mem_cons.1 ((insI_perm l x).mem_iff.1 hz) with rfl | hz
      · exact Int.le_of_lt hlt
      · exact h1 z hz
    · rename_i hlt
      refine List.pairwise_cons.2 ⟨fun z hz => ?_, h⟩
      have h3 : cmpI x y ≤ 0 := by have := cmpI_neg x y; omega
      rcases List.mem_cons.1 hz with rfl | hz
      · exact h3
      · exact cmpI_trans h3 (h1 z hz)
theorem insI_cut {l : List Itm} {x : Itm} {k : Nat} (h : ∀ y ∈ l.take k, cmpI y x < 0) : insI l x = l.take k ++ insI (l.drop k) x := by
  induction k generalizing l with
  | zero => simp
  | succ k ih =>
    cases l with
    | nil => simp
    | cons y l =>
      rw [List.take_succ_cons] at h ⊢
      rw [insI, if_pos (h y List.mem_cons_self), List.drop_succ_cons, ih fun z hz => h z (List.mem_cons_of_mem _ hz)]
      rfl
theorem insI_at {l : List Itm} {x : Itm} {k : Nat} (h : ∀ y ∈ l.take k, cmpI y x < 0) (h2 : ∀ y, l[k]? = some y → ¬ cmpI y x < 0) : insI l x = l.take k ++ x :: l.drop k := by
  rw [insI_cut h]
  congr 1
  cases hd : l.drop k with
  | nil => rfl
  | cons y r =>
    rw [insI, if_neg]
    refine h2 y ?_
    have := congrArg (fun m => m[0]?) hd
    simpa using this
def isort (l : List Itm) : List Itm := l.foldl insI []
theorem isort_snoc (l : List Itm) (x : Itm) : isort (l ++ [x]) = insI (isort l) x := by simp [isort]
/-- Names, each once. -/
abbrev Once (l : List Itm) : Prop := (l.map (·.name)).Nodup
theorem once_perm {l m : List Itm} (h : l.Perm m) : Once l ↔ Once m := (h.map _).nodup_iff
theorem srt_uniq : ∀ {a b : List Itm}, Srt a → Srt b → a.Perm b → Once a → a = b
  | [], b, _, _, h, _ => (List.Perm.nil_eq h)
  | x :: a, [], _, _, h, _ => absurd h.length_eq (by simp)
  | x :: a, y :: b, h1, h2, h, hn => by
    obtain ⟨p1, p2⟩ := List.pairwise_cons.1 h1
    obtain ⟨q1, q2⟩ := List.pairwise_cons.1 h2
    have e : x = y := by
      rcases List.mem_cons.1 (h.mem_iff.1 (List.mem_cons_self)) with e | e
      · exact e
      · rcases List.mem_cons.1 (h.mem_iff.2 (List.mem_cons_self)) with f | f
        · exact f.symm
        · exfalso
          have x1 := q1 x e
          have x2 := p1 y f
          have x3 := cmpI_neg x y
          have x4 := ((cmpI_zero x y).1 (by omega)).2.2
          have hn2 : Once (x :: a) := hn
          unfold Once at hn2
          rw [List.map_cons, List.nodup_cons] at hn2
          exact hn2.1 (List.mem_map.2 ⟨y, f, x4.symm⟩)
    subst e
    have hn2 : Once (x :: a) := hn
    unfold Once at hn2
    rw [List.map_cons, List.nodup_cons] at hn2
    rw [srt_uniq p2 q2 (List.Perm.cons_inv h) hn2.2]
theorem isort_perm (l : List Itm) : (isort l).Perm l := by
  have : ∀ (l a : List Itm), (l.foldl insI a).Perm (a ++ l) := by
    intro l
    induction l with
    | nil => intro a; simp
    | cons x l ih =>
      intro a
      refine (ih _).trans ?_
      refine ((insI_perm a x).append_right l).trans ?_
      exact (List.perm_middle (a := x) (l₁ := a) (l₂ := l)).symm
  simpa [isort] using this l []
theorem isort_srt (l : List Itm) : Srt (isort l) := by
  have : ∀ (l a : List Itm), Srt a → Srt (l.foldl insI a) := by
    intro l
    induction l with
    | nil => intro a h; exact h
    | cons x l ih => intro a h; exact ih _ (insI_srt h x)
  exact this l [] List.Pairwise.nil
theorem isort_self {l : List Itm} (h : Srt l) (hn : Once l) : isort l = l := srt_uniq (isort_srt l) h (isort_perm l) ((once_perm (isort_perm l)).2 hn)

/-- Where the first one of this name is. -/
def findN (l : List Itm) (s : List UInt8) : Option Nat := l.findIdx? fun x => x.name == s
def rdropF : List Itm → List (List UInt8) → Option (List Itm)
  | l, [] => some l
  | l, d :: r => match findN l d with
    | none => none
    | some k => rdropF (l.take k ++ l.drop (k + 1)) r
def raddF : List Itm → List Itm → Option (List Itm)
  | l, [] => some l
  | l, x :: r => match findN l x.name with
    | none => raddF (insI l x) r
    | some _ => none
def meet (x y : Itm) : Bool := decide (0 < x.lev) && (decide (x.lev = y.lev) && (leT x.low y.high && leT y.low x.high))
def Crs (m : List Itm) : Prop := ∃ (i k : Nat) (x y : Itm), k < i ∧ m[i]? = some x ∧ m[k]? = some y ∧ meet x y = true
open Classical in
noncomputable def crossL (m : List Itm) : Bool := decide (Crs m)
theorem crossL_iff (m : List Itm) : crossL m = true ↔ Crs m := @decide_eq_true_iff _ (Classical.propDecidable _)
/-- What an edit makes of files, or its error. -/
noncomputable def apF (s : St) (e : Ed) : Int × St :=
  if (e.add.all mayF && (decide (s.next ≤ e.next) && decide (s.fl ≤ e.fl))) = false then (1, St0)
  else match rdropF (isort s.files) e.del with
    | none => (3, St0)
    | some l => match raddF l e.add with
      | none => (4, St0)
      | some m => if crossL m = true then (40, St0) else (0, ⟨m, e.next, e.fl⟩)
/-- What holds of all files that edits made. -/
structure Good (s : St) : Prop where
  srt : Srt s.files
  once : Once s.files
  may : ∀ x ∈ s.files, mayF x = true
  apart : ¬ Crs s.files
theorem good0 : Good St0 := ⟨List.Pairwise.nil, List.nodup_nil, by simp, fun ⟨i, k, x, y, _, h, _⟩ => by simp at h⟩

theorem findN_none {l : List Itm} {s : List UInt8} : findN l s = none ↔ ∀ x ∈ l, x.name ≠ s := by
  unfold findN
  rw [List.findIdx?_eq_none_iff]
  simp
theorem findN_some {l : List Itm} {s : List UInt8} {k : Nat} (h : findN l s = some k) : ∃ x, l[k]? = some x ∧ x.name = s := by
  unfold findN at h
  rw [List.findIdx?_eq_some_iff_getElem] at h
  obtain ⟨h1, h2, h3⟩ := h
  exact ⟨l[k], List.getElem?_eq_getElem h1, by simpa using h2⟩
theorem cut_name {l : List Itm} (hn : Once l) {k : Nat} {x : Itm} (hx : l[k]? = some x) : l.take k ++ l.drop (k + 1) = l.filter fun y => !(y.name == x.name) := by
  obtain ⟨h1, rfl⟩ := List.getElem?_eq_some_iff.1 hx
  have e : l = l.take k ++ l[k] :: l.drop (k + 1) := by rw [← List.drop_eq_getElem_cons h1, List.take_append_drop]
  generalize l[k] = x at *
  generalize l.take k = a at *
  generalize l.drop (k + 1) = b at *
  subst e
  have hn2 : ((a ++ x :: b).map (·.name)).Nodup := hn
  rw [List.map_append, List.map_cons, List.nodup_append] at hn2
  obtain ⟨n1, n2, n3⟩ := hn2
  rw [List.nodup_cons] at n2
  rw [List.filter_append, List.filter_cons_of_neg (by simp)]
  congr 1
  · symm
    rw [List.filter_eq_self]
    intro y hy
    have : y.name ≠ x.name := n3 y.name (List.mem_map.2 ⟨y, hy, rfl⟩) x.name (by simp)
    simpa using this
  · symm
    rw [List.filter_eq_self]
    intro y hy
    have : y.name ≠ x.name := fun e => n2.1 (List.mem_map.2 ⟨y, hy, e⟩)
    simpa using this
/-- The numbers tell the names. -/
def Cnts (G : List UInt8 → Int) (l : List Itm) : Prop := ∀ s, 0 ≤ G s ∧ (0 < G s ↔ ∃ x ∈ l, x.name = s)
theorem cnts_of (l : List Itm) : Cnts (cnt l) l := fun s => by
  refine ⟨(cnt_le l s).1, ?_⟩
  unfold cnt
  rw [show (0 : Int) = ((0 : Nat) : Int) from rfl, Int.ofNat_lt, List.countP_pos_iff]
  simp
theorem once_filter {l : List Itm} (h : Once l) (p : Itm → Bool) : Once (l.filter p) := (List.filter_sublist.map _).nodup h
theorem drop_same : ∀ (del : List (List UInt8)) (l : List Itm) (G : List UInt8 → Int), Once l → Cnts G l →
    (dropF G del = none ∧ rdropF l del = none) ∨ ∃ G' l', dropF G del = some G' ∧ rdropF l del = some l' ∧ l' = l.filter (fun x => decide (0 < G' x.name)) ∧ Cnts G' l' ∧ ∀ s, G' s ≤ G s
  | [], l, G, hn, hc => .inr ⟨G, l, rfl, rfl, by
      symm
      rw [List.filter_eq_self]
      intro x hx
      have := (hc x.name).2.2 ⟨x, hx, rfl⟩
      simpa using this, hc, fun _ => Int.le_refl _⟩
  | d :: r, l, G, hn, hc => by
    rw [dropF, rdropF]
    cases hf : findN l d with
    | none =>
      have h0 : G d = 0 := by
        have h1 := (hc d).1
        by_cases h : 0 < G d
        · obtain ⟨x, hx, e⟩ := (hc d).2.1 h
          exact absurd e (findN_none.1 hf x hx)
        · omega
      rw [if_pos h0]
      exact .inl ⟨rfl, rfl⟩
    | some k =>
      obtain ⟨x, hx, rfl⟩ := findN_some hf
      have h0 : G x.name ≠ 0 := by
        have := (hc x.name).2.2 ⟨x, List.mem_of_getElem? hx, rfl⟩
        omega
      rw [if_neg h0]
      dsimp only
      rw [cut_name hn hx]
      have hc2 : Cnts (upd G x.name 0) (l.filter fun y => !(y.name == x.name)) := by
        intro s
        unfold upd
        by_cases e : s = x.name
        · rw [if_pos e]
          refine ⟨Int.le_refl _, fun h => absurd h (by omega), ?_⟩
          rintro ⟨y, hy, rfl⟩
          have := (List.mem_filter.1 hy).2
          simp [e] at this
        · rw [if_neg e]
          refine ⟨(hc s).1, ?_⟩
          rw [(hc s).2]
          constructor
          · rintro ⟨y, hy, rfl⟩
            exact ⟨y, List.mem_filter.2 ⟨hy, by simpa using e⟩, rfl⟩
          · rintro ⟨y, hy, rfl⟩
            exact ⟨y, (List.mem_filter.1 hy).1, rfl⟩
      rcases drop_same r _ _ (once_filter hn _) hc2 with h | ⟨G', l', h1, h2, h3, h4, h5⟩
      · exact .inl h
      · refine .inr ⟨G', l', h1, h2, ?_, h4, fun s => ?_⟩
        · rw [h3, List.filter_filter]
          congr 1
          funext y
          by_cases e : y.name = x.name
          · have := h5 y.name
            unfold upd at this
            rw [if_pos e] at this
            have h6 : ¬ 0 < G' y.name := by omega
            simp [e, e ▸ h6]
          · simp [e]
        · have := h5 s
          unfold upd at this
          by_cases e : s = x.name
          · rw [if_pos e] at this
            have := (hc s).1
            omega
          · rwa [if_neg e] at this
theorem add_same : ∀ (add : List Itm) (l : List Itm) (G : List UInt8 → Int), Once l → Srt l → Cnts G l →
    (addF G add = none ∧ raddF l add = none) ∨ ∃ G' m, addF G add = some G' ∧ raddF l add = some m ∧ m.Perm (l ++ add) ∧ Srt m ∧ Once m
  | [], l, G, hn, hs, hc => .inr ⟨G, l, rfl, rfl, by simp, hs, hn⟩
  | x :: r, l, G, hn, hs, hc => by
    rw [addF, raddF]
    cases hf : findN l x.name with
    | some k =>
      obtain ⟨y, hy, e⟩ := findN_some hf
      rw [if_pos ((hc x.name).2.2 ⟨y, List.mem_of_getElem? hy, e⟩)]
      exact .inl ⟨rfl, rfl⟩
    | none =>
      have hno := findN_none.1 hf
      have h0 : ¬ 0 < G x.name := fun h => by
        obtain ⟨y, hy, e⟩ := (hc x.name).2.1 h
        exact hno y hy e
      have hz : G x.name = 0 := by have := (hc x.name).1; omega
      rw [if_neg h0]
      dsimp only
      have hp := insI_perm l x
      have hn2 : Once (insI l x) := by
        rw [once_perm hp]
        unfold Once
        rw [List.map_cons, List.nodup_cons]
        refine ⟨fun h => ?_, hn⟩
        obtain ⟨y, hy, e⟩ := List.mem_map.1 h
        exact hno y hy e
      have hc2 : Cnts (upd G x.name (G x.name + 1)) (insI l x) := by
        intro s
        unfold upd
        by_cases e : s = x.name
        · rw [if_pos e]
          exact ⟨by omega, fun _ => ⟨x, hp.mem_iff.2 List.mem_cons_self, e.symm⟩, fun _ => by omega⟩
        · rw [if_neg e]
          refine ⟨(hc s).1, ?_⟩
          rw [(hc s).2]
          constructor
          · rintro ⟨y, hy, h⟩
            exact ⟨y, hp.mem_iff.2 (List.mem_cons_of_mem _ hy), h⟩
          · rintro ⟨y, hy, h⟩
            rcases List.mem_cons.1 (hp.mem_iff.1 hy) with rfl | hy
            · exact absurd h.symm e
            · exact ⟨y, hy, h⟩
      rcases add_same r _ _ hn2 (insI_srt hs x) hc2 with h | ⟨G', m, h1, h2, h3, h4, h5⟩
      · exact .inl h
      · refine .inr ⟨G', m, h1, h2, h3.trans ?_, h4, h5⟩
        refine (hp.append_right r).trans ?_
        exact (List.perm_middle (a := x) (l₁ := l) (l₂ := r)).symm

theorem common_low {x y : Itm} (h1 : cmpT y.low x.low ≤ 0) (h2 : leT x.low x.high = true) : leT y.low x.high = true := leT_trans ((leT_iff _ _).2 h1) h2
/-- Of files in order, that may be, two have a row in common just if two neighbours have. -/
theorem nbr_iff {D : List Itm} (hs : Srt D) (hm : ∀ x ∈ D, leT x.low x.high = true) :
    nbr D = true ↔ ∃ (i k : Nat) (x y : Itm), k < i ∧ D[i]? = some x ∧ D[k]? = some y ∧ x.lev = y.lev ∧ leT x.low y.high = true ∧ leT y.low x.high = true := by
  induction D with
  | nil => simp [nbr]
  | cons a D ih =>
    obtain ⟨p1, p2⟩ := List.pairwise_cons.1 hs
    have ih := ih p2 fun x hx => hm x (List.mem_cons_of_mem _ hx)
    cases D with
    | nil =>
      rw [nbr_short (by simp)]
      constructor
      · intro h; cases h
      · rintro ⟨i, k, x, y, h, h1, -⟩
        exfalso
        have := (List.getElem?_eq_some_iff.1 h1).1
        simp at this
        omega
    | cons b D =>
      rw [nbr, Bool.or_eq_true, ih]
      constructor
      · rintro (h | ⟨i, k, x, y, h, h1, h2, h3⟩)
        · rw [Bool.and_eq_true, decide_eq_true_iff] at h
          have hab := p1 b List.mem_cons_self
          have hlow : cmpT a.low b.low ≤ 0 := by
            unfold cmpI or3 at hab
            have hz := cmpZ_vals a.lev b.lev
            by_cases h0 : cmpT a.low b.low = 0
            · omega
            · rw [if_neg (by simp; omega), if_pos h0] at hab
              exact hab
          exact ⟨1, 0, b, a, by omega, rfl, rfl, h.1, h.2, common_low (y := a) (x := b) hlow (hm b (by simp))⟩
        · exact ⟨i + 1, k + 1, x, y, by omega, by simpa using h1, by simpa using h2, h3⟩
      · rintro ⟨i, k, x, y, h, h1, h2, h3, h4, h5⟩
        cases k with
        | succ k =>
          refine .inr ⟨i - 1, k, x, y, by omega, ?_, by simpa using h2, h3, h4, h5⟩
          rw [show i = (i - 1) + 1 by omega] at h1
          simpa using h1
        | zero =>
          simp at h2
          subst h2
          rw [show i = (i - 1) + 1 by omega] at h1
          rw [List.getElem?_cons_succ] at h1
          have hab := p1 b List.mem_cons_self
          have hbx : cmpI b x ≤ 0 := by
            cases hi : i - 1 with
            | zero => rw [hi] at h1; simp at h1; rw [h1, cmpI_refl]; omega
            | succ j =>
              rw [hi] at h1
              simp at h1
              exact (List.pairwise_cons.1 p2).1 x (List.mem_of_getElem? h1)
          have hz1 := cmpZ_vals a.lev b.lev
          have hz2 := cmpZ_vals b.lev x.lev
          have hlev : b.lev = a.lev := by
            unfold cmpI or3 at hab hbx
            by_cases g1 : cmpZ a.lev b.lev = 0
            · omega
            · rw [if_pos g1] at hab
              by_cases g2 : cmpZ b.lev x.lev = 0
              · omega
              · rw [if_pos g2] at hbx
                omega
          have hbl : cmpT b.low x.low ≤ 0 := by
            unfold cmpI or3 at hbx
            by_cases h0 : cmpT b.low x.low = 0
            · omega
            · rw [if_neg (by simp; omega), if_pos h0] at hbx
              exact hbx
          left
          rw [Bool.and_eq_true, decide_eq_true_iff]
          exact ⟨hlev, leT_trans ((leT_iff _ _).2 hbl) h4⟩
theorem may_rows {x : Itm} (h : mayF x = true) : leT x.low x.high = true := by
  unfold mayF at h
  simp only [Bool.and_eq_true] at h
  exact h.2.2.2.2.2.1
theorem srt_lev {M : List Itm} (hs : Srt M) {i k : Nat} {x y : Itm} (hik : k ≤ i) (hx : M[i]? = some x) (hy : M[k]? = some y) : y.lev ≤ x.lev := by
  obtain ⟨h1, rfl⟩ := List.getElem?_eq_some_iff.1 hx
  obtain ⟨h2, rfl⟩ := List.getElem?_eq_some_iff.1 hy
  rcases Nat.lt_or_ge k i with h | h
  · have h3 := List.pairwise_iff_getElem.1 hs k i h2 h1 h
    unfold cmpI or3 at h3
    have hz := cmpZ_vals M[k].lev M[i].lev
    by_cases g : cmpZ M[k].lev M[i].lev = 0
    · omega
    · rw [if_pos g] at h3; omega
  · obtain rfl : k = i := by omega
    exact Int.le_refl _
/-- What the code looks at is what the document asks. -/
theorem crs_iff {M : List Itm} (hs : Srt M) (hm : ∀ x ∈ M, mayF x = true) : nbr (M.filter deepB) = crossL M := by
  have hD : Srt (M.filter deepB) := List.Pairwise.sublist List.filter_sublist hs
  have hr : ∀ x ∈ M.filter deepB, leT x.low x.high = true := fun x hx => may_rows (hm x (List.mem_filter.1 hx).1)
  rw [Bool.eq_iff_iff, nbr_iff hD hr]
  rw [crossL_iff]
  have hpw : ∀ (l : List Itm), (∃ (i k : Nat) (x y : Itm), k < i ∧ l[i]? = some x ∧ l[k]? = some y ∧ x.lev = y.lev ∧ leT x.low y.high = true ∧ leT y.low x.high = true) ↔ ¬ l.Pairwise fun y x => ¬ (x.lev = y.lev ∧ leT x.low y.high = true ∧ leT y.low x.high = true) := by
    intro l
    rw [List.pairwise_iff_getElem]
    constructor
    · rintro ⟨i, k, x, y, h, hx, hy, h3⟩ hh
      obtain ⟨h1, rfl⟩ := List.getElem?_eq_some_iff.1 hx
      obtain ⟨h2, rfl⟩ := List.getElem?_eq_some_iff.1 hy
      exact hh k i h2 h1 h h3
    · intro hh
      refine Classical.byContradiction fun hno => hh fun k i hk hi hki h3 => hno ⟨i, k, l[i], l[k], hki, List.getElem?_eq_getElem hi, List.getElem?_eq_getElem hk, h3⟩
  rw [hpw]
  have hpw2 : Crs M ↔ ¬ M.Pairwise fun y x => ¬ (meet x y = true) := by
    rw [List.pairwise_iff_getElem]
    constructor
    · rintro ⟨i, k, x, y, h, hx, hy, h3⟩ hh
      obtain ⟨h1, rfl⟩ := List.getElem?_eq_some_iff.1 hx
      obtain ⟨h2, rfl⟩ := List.getElem?_eq_some_iff.1 hy
      exact hh k i h2 h1 h h3
    · intro hh
      refine Classical.byContradiction fun hno => hh fun k i hk hi hki h3 => hno ⟨i, k, M[i], M[k], hki, List.getElem?_eq_getElem hi, List.getElem?_eq_getElem hk, h3⟩
  rw [hpw2]
  refine not_congr ?_
  rw [List.pairwise_filter]
  constructor
  · refine List.Pairwise.imp_of_mem fun {a b} ha hb h hm2 => ?_
    unfold meet at hm2
    simp only [Bool.and_eq_true, decide_eq_true_iff] at hm2
    have da : deepB a = true := by simp [deepB, may_rows (hm a ha), ← hm2.2.1, hm2.1]
    have db : deepB b = true := by simp [deepB, may_rows (hm b hb), hm2.1]
    exact h da db ⟨hm2.2.1, hm2.2.2.1, hm2.2.2.2⟩
  · refine List.Pairwise.imp_of_mem fun {a b} ha hb h da db h3 => h ?_
    unfold deepB at db
    simp only [Bool.and_eq_true, decide_eq_true_iff] at db
    unfold meet
    simp [db.1, h3.1, h3.2.1, h3.2.2]
    rw [← h3.1]
    exact db.1
end Go.Proofs.Yteglddggjkibcaa
