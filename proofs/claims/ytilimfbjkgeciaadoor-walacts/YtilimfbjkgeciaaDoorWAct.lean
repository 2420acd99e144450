/-
  bounded; appending texts to a list of the law's own. Conditions: as written.
-/
import Derived.Test.YtilimfbjkgeciaaDoorWLft
namespace Go.Proofs.YtilimfbjkgeciaaDoor
set_option maxRecDepth 100000
open Go.RowKit Go.Maps Go.Shelf

def short (t : List UInt8) : Bool := decide (t.length ≤ 200)
/-- What bounded answers. -/
def bnd (l : List (List UInt8)) : Bool := l.all short && decide (l.length ≤ 10)
theorem bnd_yes {l : List (List UInt8)} (h : bnd l = true) : l.length ≤ 10 ∧ ∀ t ∈ l, t.length ≤ 200 := by
  unfold bnd at h
  rw [Bool.and_eq_true, List.all_eq_true, decide_eq_true_eq] at h
  exact ⟨h.2, fun t ht => by have := h.1 t ht; unfold short at this; simpa using this⟩
theorem short_puts (l : List (List UInt8)) (h : ∀ t ∈ l, t.length ≤ 200) : (puts l).length ≤ 206 * l.length := by
  rw [puts_len]
  induction l with
  | nil => exact Nat.le_refl _
  | cons t l ih =>
    have h1 := h t (by simp)
    have h2 := ih (fun x hx => h x (by simp [hx]))
    simp [took] at h2 ⊢
    omega
set_option maxHeartbeats 2000000 in
theorem bounded_any (c : Ac) (hc : c.cap ≤ maxLen) (w : World) (hS : Strs w c.A c.cap c.texts) :
    Calls Tryd.prog 13 #[.agg (acells c)] w fun e w' => e = .returned (.bool (bnd c.texts)) ∧ Old w w' := by
  obtain ⟨kind, n, keep, l, A, cap⟩ := c
  simp only at hc hS ⊢
  obtain ⟨R, hR⟩ : ∃ R, R = bnd l := ⟨_, rfl⟩
  rw [← hR]
  have HR := Lib.hid hR
  clear hR
  have hlc := hS.1
  unfold maxLen at hc
  have hb := new_bk w 42 #[.int .i64 kind, .int .i64 n, .int .i64 keep, .slice A l.length cap]
  have o1 := old_alloc w (.cells #[.int .i64 kind, .int .i64 n, .int .i64 keep, .slice A l.length cap] 42)
  have hS1 := hS.old o1
  have c3 : (w.alloc (.cells #[.int .i64 kind, .int .i64 n, .int .i64 keep, .slice A l.length cap] 42)).cell? ⟨w.heap.size, 3, none⟩ = some (.slice A l.length cap) := hb.at_ 3 rfl
  go_enter Tryd.func13, Tryd.ntmps13
  go_wp2_with fail
  clear hb hS
  generalize hW : w.alloc (.cells #[.int .i64 kind, .int .i64 n, .int .i64 keep, .slice A l.length cap] 42) = W at *
  go_loop [3] (fun i => ∃ k : Nat, k ≤ l.length ∧ i = .int .i64 k ∧ Hid ((l.take k).all short = true)) (fun i => l.length - (intOf i).toNat)
  case atStart => exact ⟨0, Nat.zero_le _, rfl, Lib.hid rfl⟩
  case round =>
    obtain ⟨k, hk, rfl, HA⟩ := hrel
    by_cases hlt : k < l.length
    · obtain ⟨hm, b, off, rfl, hcl⟩ := hS1.at_ k hlt
      have HT := Lib.hid (show (l.take (k + 1)).all short = ((l.take k).all short && short l[k]) by rw [List.take_succ_eq_append_getElem hlt, List.all_append]; simp)
      have HM := Lib.hid (fun (h : short l[k] = false) => (show R = false by
        rw [HR.out, bnd, show l.all short = false from by rw [List.all_eq_false]; exact ⟨l[k], List.getElem_mem hlt, by simp [h]⟩]
        rfl))
      generalize l[k] = t at *
      unfold maxLen at hm
      by_cases h2 : 200 < t.length
      · have HX := Lib.hid (HM.out (by unfold short; simp; omega))
        go_wp2
        go_ret
        exact ⟨by rw [HX.out]; rfl, o1⟩
      · have HX := Lib.hid (show (l.take (k + 1)).all short = true by rw [HT.out, HA.out]; unfold short; simp; omega)
        go_wp2
        go_round
        case rel => exact ⟨k + 1, by omega, by go_num, HX⟩
        case measure => simp [intOf]; omega
    · have HX := Lib.hid (show R = decide (l.length ≤ 10) by
        have := HA.out
        rw [List.take_of_length_le (by omega)] at this
        rw [HR.out, bnd, this]
        rfl)
      go_wp2
      go_ret
      exact ⟨ret_bool (by rw [HX.out]; rw [decide_eq_decide]; omega), o1⟩

theorem ts_length (l : List (List UInt8)) : (ts l).length = l.length := by simp [ts]
theorem ts_append (l m : List (List UInt8)) : ts (l ++ m) = ts l ++ ts m := by simp [ts]
theorem owns_new (w : World) (base : Nat) (h : base ≤ w.heap.size) : OwnS (w.alloc (.cells #[] 9)) base (.slice (some ⟨w.heap.size, 0, none⟩) 0 0) [] :=
  World.ownsRow_made w #[] 0 h (by unfold maxLen; omega) rfl
theorem OwnS.alloc {w : World} {base : Nat} {v : Value} {l : List (List UInt8)} (h : OwnS w base v l) (o : Obj) : OwnS (w.alloc o) base v l := World.ownsRow.alloc h o
/-- append(v, x..), x a slice of these texts (or none). -/
theorem run_strs {W0 w : World} {v : Value} {l : List (List UInt8)} (o : Old W0 w) (hown : OwnS w W0.heap.size v l) (news : List (List UInt8)) (A : Option Addr) (c : Nat) (hS : Strs w A c news) (hlen : l.length + news.length ≤ 100000) (ty : TypeId) :
    ∃ v' w', (Builtin.append_ #[31, 31] ty #[v, .slice A news.length c]).run Tryd.prog w = .ok v' w' ∧ OwnS w' W0.heap.size v' (l ++ news) ∧ Old W0 w' ∧ w.grownBy w' v.ownBlock := by
  obtain ⟨i0, hi, hz0, hz1, hz2⟩ := info_parts Tryd.infoStr
  cases A with
  | none =>
    have h0 : news = [] := by
      cases news with
      | nil => rfl
      | cons t news =>
        obtain ⟨_, b, off, e, _⟩ := hS.at_ 0 (by simp)
        cases e
    subst h0
    refine ⟨v, w, run_append_owned_none (P := Tryd.prog) w W0.heap.size 31 ty 9 i0 1 Tryd.underlying31 hi v l.length (ts l) hown, by rw [List.append_nil]; exact hown, o, ⟨rfl, rfl, rfl, Nat.le_refl _, fun _ _ _ => rfl⟩⟩
  | some a =>
    obtain ⟨v', w', hr, h2, h3, -, h5⟩ := run_append_own_at (P := Tryd.prog) w W0.heap.size 31 ty 9 i0 (.string ByteArray.empty) 1 16 Tryd.underlying31 hi hz0 hz1 hz2 rfl (by decide) v l.length (ts l) hown a news.length c (ts news) (by simp [ts_length]) (by
      intro j u hu
      unfold ts at hu
      rw [List.getElem?_map] at hu
      cases hg : news[j]? with
      | none => rw [hg] at hu; cases hu
      | some t =>
        rw [hg] at hu
        simp only [Option.map_some, Option.some.injEq] at hu
        subst hu
        obtain ⟨_, b2, off2, he, hcell⟩ := hS.2 j t hg
        cases he
        rw [Addr.add_lit]
        exact hcell) (by
      intro u hu
      unfold ts at hu
      obtain ⟨_, _, rfl⟩ := List.mem_map.1 hu
      rfl) (by unfold maxLen; omega) (by omega) o.size
    refine ⟨v', w', hr, ?_, o.trans ((Below.refl _ _).grown h3 o.size (fun k hk => (World.ownsRow.lt hown k hk).1)), h3⟩
    unfold OwnS
    rw [ts_append, List.length_append]
    exact h2
theorem wp_strs {ops : Array Oper} {rest : List Oper} {op : Oper} {a : Act} {Q : Exit → Act → World → Prop} {W0 w : World} (hgd : op.guard = none) (s x : Operand)
    (ho : op.op = .call { callee := .builtin .append, args := #[s, x], argTypes := #[31, 31] })
    (o : Old W0 w) (v : Value) (l news : List (List UInt8)) (hs : a.eval s = v) (hown : OwnS w W0.heap.size v l) (A : Option Addr) (c : Nat) (hx : a.eval x = .slice A news.length c) (hS : Strs w A c news) (hlen : l.length + news.length ≤ 100000)
    (h : ∀ v' w', OwnS w' W0.heap.size v' (l ++ news) → Old W0 w' → w.grownBy w' v.ownBlock → wpList Tryd.prog ops Q rest (a.put op.dst v') w') : wpList Tryd.prog ops Q (op :: rest) a w := by
  obtain ⟨v', w', hr, h2, h3, h4⟩ := run_strs o hown news A c hS hlen op.type
  refine wpList_plain hgd fun K hK => ?_
  unfold Oper.wp execOp
  simp only [ho, resolve, invoke, builtin, Sem.run_bind, Sem.run_pure, Result.andThen_ok, List.map_toArray, List.map_cons, List.map_nil, hs, hx, hr]
  exact hK _ _ (h v' w' h2 h3 h4)
theorem step_strs {ops : Array Oper} {op : Oper} {a : Act} {K : Act → World → Prop} {Q : Exit → Act → World → Prop} {E : Prop} {W0 w : World} (hgd : op.guard = none) (d : Option Nat) (hd : op.dst = d) (s x : Operand)
    (ho : op.op = .call { callee := .builtin .append, args := #[s, x], argTypes := #[31, 31] })
    (o : Old W0 w) (v : Value) (l news : List (List UInt8)) (hs : a.eval s = v) (hown : OwnS w W0.heap.size v l) (A : Option Addr) (c : Nat) (hx : a.eval x = .slice A news.length c) (hS : Strs w A c news) (hlen : l.length + news.length ≤ 100000)
    (h : ∀ v' w', OwnS w' W0.heap.size v' (l ++ news) → Old W0 w' → w.grownBy w' v.ownBlock → K (a.put d v') w') :
    if Region.wanted op (yielded ops a.tmps) = true then Oper.wp Tryd.prog op a w K Q else E := by
  obtain ⟨v', w', hr, h2, h3, h4⟩ := run_strs o hown news A c hS hlen op.type
  have hw : Region.wanted op (yielded ops a.tmps) = true := by simp [Region.wanted, hgd]
  rw [if_pos hw]
  subst hd
  unfold Oper.wp execOp
  simp only [ho, resolve, invoke, builtin, Sem.run_bind, Sem.run_pure, Result.andThen_ok, List.map_toArray, List.map_cons, List.map_nil, hs, hx, hr]
  exact h v' w' h2 h3 h4
/-- While a list of texts grows a block of another type stays. -/
theorem bk_grown {w w' : World} {base : Nat} {v : Value} {l : List (List UInt8)} (hown : OwnS w base v l) (hg : w.grownBy w' v.ownBlock) {g : Nat} {t : TypeId} {cs : Array Value} (hb : Bk w g t cs) (ht : t ≠ 9) : Bk w' g t cs := by
  refine hb.grown hg ?_
  rcases hown.2 with ⟨hv, _⟩ | ⟨gg, cap, cur, hv, _, hh, _⟩
  · rw [hv]; simp [Value.ownBlock]
  · rw [hv]
    intro e
    have e2 : g = gg := by simpa [Value.ownBlock] using e
    subst e2
    unfold Bk at hb
    rw [hb] at hh
    injection hh with hh
    injection hh with _ hh
    exact ht hh
theorem map_grown {w w' : World} {base : Nat} {v : Value} {l : List (List UInt8)} (hown : OwnS w base v l) (hg : w.grownBy w' v.ownBlock) {g : Nat} {k : Dsk} (h : Dk w k) (hgk : g ∈ own k) : w'.heap[g]? = w.heap[g]? := by
  refine hg.block g (h.lt g hgk) ?_
  rcases hown.2 with ⟨hv, _⟩ | ⟨gg, cap, cur, hv, _, hh, _⟩
  · rw [hv]; simp [Value.ownBlock]
  · rw [hv]
    intro e
    have e2 : g = gg := by simpa [Value.ownBlock] using e
    subst e2
    exact h.other (g := g) (t := 9) hh (by decide) (by decide) (by decide) (by decide) hgk
theorem Lw.grown {w w1 w2 : World} {d base : Nat} {p : Pd} {v : Value} {l : List (List UInt8)} (h : Lw w w1 d p) (hown : OwnS w1 base v l) (hg : w1.grownBy w2 v.ownBlock) (o : Old w w2) : Lw w w2 d p := by
  obtain ⟨k, h1, h2, h3, h4⟩ := h.ex
  exact ⟨⟨k, h1, h2, h3.same fun i hi _ => map_grown hown hg h3 hi, h4⟩, o⟩
end Go.Proofs.YtilimfbjkgeciaaDoor
