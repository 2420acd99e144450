/-
  Files as plain data: what is found by a name, put, deleted, changed; how many bytes they have; what a crash leaves. Nothing of the program here.
-/
namespace Go.Proofs.YtilimfbjkgeciaaDoor
set_option maxRecDepth 100000

/-- A file: its name, the block where it lies, its bytes, how many of them are synced. -/
structure Fl where
  name : List UInt8
  blk : Nat
  s : List UInt8
  n : Nat

/-- The file of a name. -/
def fnd (L : List Fl) (s : List UInt8) : Option Fl := L.find? fun f => f.name == s
/-- Without a name. -/
def del (s : List UInt8) (L : List Fl) : List Fl := L.filter fun f => f.name != s
/-- With a file, in the place of the one that had its name. -/
def put (f : Fl) (L : List Fl) : List Fl := del f.name L ++ [f]
/-- How many bytes all have. -/
def total (L : List Fl) : Nat := (L.map fun f => f.s.length).sum

theorem fnd_name {L : List Fl} {s : List UInt8} {f : Fl} (h : fnd L s = some f) : f.name = s := by
  have := List.find?_some h
  simpa using this
theorem fnd_mem {L : List Fl} {s : List UInt8} {f : Fl} (h : fnd L s = some f) : f ∈ L := List.mem_of_find?_eq_some h
theorem fnd_none {L : List Fl} {s : List UInt8} (h : fnd L s = none) : ∀ f ∈ L, f.name ≠ s := by
  intro f hf e
  have := List.find?_eq_none.1 h f hf
  simp [e] at this
theorem fnd_none_of {L : List Fl} {s : List UInt8} (h : ∀ f ∈ L, f.name ≠ s) : fnd L s = none := by
  refine List.find?_eq_none.2 fun f hf => ?_
  simpa using h f hf
theorem fnd_of_mem {L : List Fl} (hn : (L.map (·.name)).Nodup) {f : Fl} (hf : f ∈ L) : fnd L f.name = some f := by
  induction L with
  | nil => cases hf
  | cons x L ih =>
    rw [List.map_cons, List.nodup_cons] at hn
    unfold fnd
    rw [List.find?_cons]
    by_cases e : x.name = f.name
    · have hx : x = f := by
        rcases List.mem_cons.1 hf with h | h
        · exact h.symm
        · exact absurd (List.mem_map.2 ⟨f, h, e.symm⟩) hn.1
      subst hx
      simp
    · rw [show (x.name == f.name) = false by simpa using e]
      rcases List.mem_cons.1 hf with h | h
      · subst h; exact absurd rfl e
      · exact ih hn.2 h
theorem fnd_del (L : List Fl) (a s : List UInt8) : fnd (del a L) s = if a = s then none else fnd L s := by
  induction L with
  | nil => unfold del fnd; split <;> rfl
  | cons x L ih =>
    unfold del at ih ⊢
    by_cases e : x.name = a
    · rw [List.filter_cons_of_neg (by simp [e]), ih]
      by_cases e2 : a = s
      · rw [if_pos e2, if_pos e2]
      · rw [if_neg e2, if_neg e2]
        unfold fnd
        rw [List.find?_cons]
        rw [show (x.name == s) = false by rw [e]; simpa using e2]
    · rw [List.filter_cons_of_pos (by simpa using e)]
      unfold fnd at ih ⊢
      rw [List.find?_cons, List.find?_cons]
      by_cases e3 : x.name = s
      · rw [show (x.name == s) = true by simpa using e3]
        rw [if_neg (fun h => e (e3.trans h.symm))]
      · rw [show (x.name == s) = false by simpa using e3]
        exact ih
theorem fnd_snoc (L : List Fl) (f : Fl) (s : List UInt8) : fnd (L ++ [f]) s = (fnd L s).or (if f.name = s then some f else none) := by
  unfold fnd
  rw [List.find?_append]
  congr 1
  rw [List.find?_cons, List.find?_nil]
  by_cases e : f.name = s
  · rw [show (f.name == s) = true by simpa using e, if_pos e]
  · rw [show (f.name == s) = false by simpa using e, if_neg e]
theorem fnd_put (L : List Fl) (f : Fl) (s : List UInt8) : fnd (put f L) s = if f.name = s then some f else fnd L s := by
  unfold put
  rw [fnd_snoc, fnd_del]
  by_cases e : f.name = s
  · rw [if_pos e, if_pos e, if_pos e]; rfl
  · rw [if_neg e, if_neg e, if_neg e, Option.or_none]
theorem fnd_map (L : List Fl) (g : Fl → Fl) (hg : ∀ f, (g f).name = f.name) (s : List UInt8) : fnd (L.map g) s = (fnd L s).map g := by
  unfold fnd
  rw [List.find?_map]
  congr 2
  funext f
  simp [hg]
theorem del_none {L : List Fl} {s : List UInt8} (h : fnd L s = none) : del s L = L := by
  unfold del
  rw [List.filter_eq_self]
  intro f hf
  simpa using fnd_none h f hf
theorem mem_del {L : List Fl} {s : List UInt8} {f : Fl} : f ∈ del s L ↔ f ∈ L ∧ f.name ≠ s := by
  unfold del
  rw [List.mem_filter]
  simp
theorem mem_put {L : List Fl} {f g : Fl} : g ∈ put f L ↔ (g ∈ L ∧ g.name ≠ f.name) ∨ g = f := by
  unfold put
  rw [List.mem_append, mem_del, List.mem_singleton]
theorem names_map (L : List Fl) (g : Fl → Fl) (hg : ∀ f, (g f).name = f.name) : (L.map g).map (·.name) = L.map (·.name) := by
  rw [List.map_map]
  congr 1
  funext f
  exact hg f
theorem blks_map (L : List Fl) (g : Fl → Fl) (hg : ∀ f, (g f).blk = f.blk) : (L.map g).map (·.blk) = L.map (·.blk) := by
  rw [List.map_map]
  congr 1
  funext f
  exact hg f
theorem nodup_del {L : List Fl} (s : List UInt8) {α : Type} (p : Fl → α) (h : (L.map p).Nodup) : ((del s L).map p).Nodup :=
  List.Sublist.nodup (List.Sublist.map p (List.filter_sublist)) h
theorem nodup_names_put {L : List Fl} (f : Fl) (h : (L.map (·.name)).Nodup) : ((put f L).map (·.name)).Nodup := by
  unfold put
  rw [List.map_append, List.nodup_append]
  refine ⟨nodup_del _ _ h, by simp, ?_⟩
  intro a ha b hb
  simp only [List.map_cons, List.map_nil, List.mem_singleton] at hb
  subst hb
  obtain ⟨g, hg, rfl⟩ := List.mem_map.1 ha
  exact (mem_del.1 hg).2
theorem nodup_blks_put {L : List Fl} (f : Fl) (h : (L.map (·.blk)).Nodup) (hf : ∀ g ∈ L, g.name ≠ f.name → g.blk ≠ f.blk) : ((put f L).map (·.blk)).Nodup := by
  unfold put
  rw [List.map_append, List.nodup_append]
  refine ⟨nodup_del _ _ h, by simp, ?_⟩
  intro a ha b hb
  simp only [List.map_cons, List.map_nil, List.mem_singleton] at hb
  subst hb
  obtain ⟨g, hg, rfl⟩ := List.mem_map.1 ha
  obtain ⟨h1, h2⟩ := mem_del.1 hg
  exact hf g h1 h2
theorem blk_eq {L : List Fl} (h : (L.map (·.blk)).Nodup) {f g : Fl} (hf : f ∈ L) (hg : g ∈ L) (e : f.blk = g.blk) : f = g := by
  induction L with
  | nil => cases hf
  | cons x L ih =>
    rw [List.map_cons, List.nodup_cons] at h
    rcases List.mem_cons.1 hf with h1 | h1
    · rcases List.mem_cons.1 hg with h2 | h2
      · rw [h1, h2]
      · exact absurd (List.mem_map.2 ⟨g, h2, by rw [← e, h1]⟩) h.1
    · rcases List.mem_cons.1 hg with h2 | h2
      · exact absurd (List.mem_map.2 ⟨f, h1, by rw [e, h2]⟩) h.1
      · exact ih h.2 h1 h2
theorem name_eq {L : List Fl} (h : (L.map (·.name)).Nodup) {f g : Fl} (hf : f ∈ L) (hg : g ∈ L) (e : f.name = g.name) : f = g := by
  have h1 := fnd_of_mem h hf
  have h2 := fnd_of_mem h hg
  rw [e, h2] at h1
  exact (Option.some.inj h1).symm

theorem total_nil : total [] = 0 := rfl
theorem total_cons (f : Fl) (L : List Fl) : total (f :: L) = f.s.length + total L := by simp [total]
theorem total_append (L M : List Fl) : total (L ++ M) = total L + total M := by simp [total, List.sum_append]
theorem total_del_le (s : List UInt8) (L : List Fl) : total (del s L) ≤ total L := by
  induction L with
  | nil => exact Nat.le_refl _
  | cons x L ih =>
    unfold del at ih ⊢
    by_cases e : x.name = s
    · rw [List.filter_cons_of_neg (by simp [e]), total_cons]; omega
    · rw [List.filter_cons_of_pos (by simpa using e), total_cons, total_cons]; omega
theorem total_del {L : List Fl} (hn : (L.map (·.name)).Nodup) {f : Fl} (hf : f ∈ L) : total (del f.name L) + f.s.length = total L := by
  induction L with
  | nil => cases hf
  | cons x L ih =>
    rw [List.map_cons, List.nodup_cons] at hn
    rcases List.mem_cons.1 hf with h | h
    · subst h
      have : del f.name (f :: L) = L := by
        unfold del
        rw [List.filter_cons_of_neg (by simp), List.filter_eq_self]
        intro g hg
        have : g.name ≠ f.name := fun e => hn.1 (List.mem_map.2 ⟨g, hg, e⟩)
        simpa using this
      rw [this, total_cons]
      omega
    · have hne : x.name ≠ f.name := fun e => hn.1 (List.mem_map.2 ⟨f, h, e.symm⟩)
      have := ih hn.2 h
      unfold del at this ⊢
      rw [List.filter_cons_of_pos (by simpa using hne), total_cons, total_cons]
      omega
theorem total_put_le (f : Fl) (L : List Fl) : total (put f L) ≤ total L + f.s.length := by
  unfold put
  rw [total_append, total_cons, total_nil]
  have := total_del_le f.name L
  omega
theorem total_map_le (L : List Fl) (g : Fl → Fl) (h : ∀ f ∈ L, (g f).s.length ≤ f.s.length) : total (L.map g) ≤ total L := by
  induction L with
  | nil => exact Nat.le_refl _
  | cons x L ih =>
    rw [List.map_cons, total_cons, total_cons]
    have := h x (by simp)
    have := ih (fun f hf => h f (by simp [hf]))
    omega
theorem len_le_total {L : List Fl} {f : Fl} (hf : f ∈ L) : f.s.length ≤ total L := by
  induction L with
  | nil => cases hf
  | cons x L ih =>
    rw [total_cons]
    rcases List.mem_cons.1 hf with rfl | h
    · omega
    · have := ih h; omega

/-- The file in a block, changed. -/
def upd (b : Nat) (g : Fl → Fl) (L : List Fl) : List Fl := L.map fun f => if f.blk = b then g f else f
theorem upd_one {L : List Fl} (hb : (L.map (·.blk)).Nodup) {f : Fl} (hf : f ∈ L) (g : Fl → Fl) : total (upd f.blk g L) + f.s.length = total L + (g f).s.length := by
  induction L with
  | nil => cases hf
  | cons x L ih =>
    rw [List.map_cons, List.nodup_cons] at hb
    unfold upd at ih ⊢
    rw [List.map_cons, total_cons, total_cons]
    rcases List.mem_cons.1 hf with h | h
    · subst h
      rw [if_pos rfl]
      have : L.map (fun y => if y.blk = f.blk then g y else y) = L := by
        conv => rhs; rw [← List.map_id L]
        apply List.map_congr_left
        intro y hy
        rw [if_neg (fun e => hb.1 (List.mem_map.2 ⟨y, hy, e⟩))]
        rfl
      rw [this]
      omega
    · rw [if_neg (fun e => hb.1 (List.mem_map.2 ⟨f, h, e.symm⟩))]
      have := ih hb.2 h
      omega

/-- What a crash leaves of a file. -/
def stay (keep : Int) (f : Fl) : Nat := if 0 < keep then f.n + keep.toNat % (f.s.length - f.n + 1) else f.n
def crF (keep : Int) (f : Fl) : Fl := { f with s := f.s.take (stay keep f), n := stay keep f }
theorem stay_le {keep : Int} {f : Fl} (h : f.n ≤ f.s.length) : f.n ≤ stay keep f ∧ stay keep f ≤ f.s.length := by
  unfold stay
  split
  · have := Nat.mod_lt keep.toNat (show 0 < f.s.length - f.n + 1 by omega)
    omega
  · omega
theorem crF_len {keep : Int} {f : Fl} (h : f.n ≤ f.s.length) : (crF keep f).s.length = stay keep f := by
  show (f.s.take (stay keep f)).length = _
  rw [List.length_take]
  have := stay_le (keep := keep) h
  omega
end Go.Proofs.YtilimfbjkgeciaaDoor
