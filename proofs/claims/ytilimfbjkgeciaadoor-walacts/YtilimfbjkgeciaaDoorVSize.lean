/-
  Size of the code: all files, in whatever order. Condition: the disk lies in memory.
-/
import Derived.Test.YtilimfbjkgeciaaDoorVTell
namespace Go.Proofs.YtilimfbjkgeciaaDoor
set_option maxRecDepth 100000
open Go.RowKit Go.Maps

theorem key_form {key : Value} {kl : Lit} (h : keyOf Tryd.prog 9 key = some kl) : ∃ s : List UInt8, key = .string (B s) ∧ kl = .string s := by
  have hk := Tryd.underlying9
  cases key <;> simp [keyOf, hk, mapKey] at h
  rename_i b
  obtain ⟨-, rfl⟩ := h
  exact ⟨b.data.toList, rfl, rfl⟩

/-- The step of a range over the files. -/
theorem wp_next_file {w : World} {ops : Array Oper} {rest : List Oper} {o : Oper} {a : Act} {Q : Exit → Act → World → Prop} (hg : o.guard = none) (it : Operand) (hop : o.op = Op.next it false)
    (L : List Fl) (D : DataW Unit) (hR : Rep D L) (b r n : Nat) (left : Lit → Bool) (cnt : Nat) (hit : a.eval it = .pointer (some ⟨r, 0, none⟩)) (h : w.ranges Tryd.prog 9 ptrR b r n D left cnt)
    (hDone : (∀ kl, left kl = false) → wpList Tryd.prog ops Q rest (a.put o.dst (.tuple #[.bool false])) w)
    (hMore : ∀ (f : Fl) (w' : World) (cnt' : Nat), f ∈ L → left (.string f.name) = true → w'.ranges Tryd.prog 9 ptrR b r n D (fun z => left z && !z.sameKey (.string f.name)) cnt' → cnt' < cnt →
      w.grownBy w' (some r) → (Instr.entry (.pointer (some ⟨r, 0, none⟩))).run Tryd.prog w' = .ok (.tuple #[.string (B f.name), ptr f.blk]) w' → wpList Tryd.prog ops Q rest (a.put o.dst (.tuple #[.bool true, .string (B f.name), ptr f.blk])) w') :
    wpList Tryd.prog ops Q (o :: rest) a w := by
  refine wpList_plain hg fun K' hK' => ?_
  unfold Oper.wp
  rcases h.next lawS o.type with ⟨h0, hl, hrun⟩ | ⟨key, v, kl, y, w', cnt', hkey, hlk, hv, hat, hrun, hrg, hlt, hgr, hsz, hen⟩
  · simp [execOp, hop, hit, hrun, Result.andThen]
    exact hK' _ _ (hDone hl)
  · obtain ⟨s, rfl, rfl⟩ := key_form hkey
    have hh := has_true_of_atKey hat
    rw [hR.has] at hh
    cases hf : fnd L s with
    | none => rw [hf] at hh; cases hh
    | some f =>
      have hy : y.1 = tok f.blk := (hat .nil).symm.trans (hR.at_ s f hf .nil)
      obtain ⟨y1, y2⟩ := y
      simp only at hy
      subst hy
      obtain rfl := ptrR_tok hv
      obtain rfl := fnd_name hf
      simp [execOp, hop, hit, hrun, Result.andThen]
      exact hK' _ _ (hMore f w' cnt' (fnd_mem hf) hlk hrg hlt hgr hen)

/-- How many bytes those files have that have been. -/
def past (L : List Fl) (left : Lit → Bool) : Nat := total (L.filter fun f => !left (.string f.name))
theorem past_start {L : List Fl} {D : DataW Unit} (hR : Rep D L) (hn : (L.map (·.name)).Nodup) : past L (Maps.has D) = 0 := by
  unfold past
  have : (L.filter fun f => !Maps.has D (.string f.name)) = [] := by
    rw [List.filter_eq_nil_iff]
    intro f hf
    rw [hR.has, fnd_of_mem hn hf]
    simp
  rw [this]
  rfl
theorem past_end (L : List Fl) (left : Lit → Bool) (h : ∀ kl, left kl = false) : past L left = total L := by
  unfold past
  rw [List.filter_eq_self.2 (fun f _ => by rw [h]; rfl)]
theorem past_le (L : List Fl) (left : Lit → Bool) : past L left ≤ total L := by
  unfold past
  induction L with
  | nil => exact Nat.le_refl _
  | cons x L ih =>
    cases hx : left (.string x.name)
    · rw [List.filter_cons_of_pos (by simp [hx]), total_cons, total_cons]; omega
    · rw [List.filter_cons_of_neg (by simp [hx]), total_cons]; omega
theorem same_str (a b : List UInt8) : (Lit.string a).sameKey (.string b) = decide (a = b) := by
  by_cases e : a = b
  · subst e
    rw [WideAt.sameKey_self (isKey a)]
    simp
  · rw [sameKey_ne (key_ne e)]
    simp [e]
theorem past_step {L : List Fl} (hn : (L.map (·.name)).Nodup) {left : Lit → Bool} {f : Fl} (hf : f ∈ L) (hl : left (.string f.name) = true) : past L (fun z => left z && !z.sameKey (.string f.name)) = past L left + f.s.length := by
  unfold past
  induction L with
  | nil => cases hf
  | cons x L ih =>
    rw [List.map_cons, List.nodup_cons] at hn
    rcases List.mem_cons.1 hf with h | h
    · subst h
      have e1 : (L.filter fun g => !(left (.string g.name) && !(Lit.string g.name).sameKey (.string f.name))) = L.filter fun g => !left (.string g.name) := by
        apply List.filter_congr
        intro g hg
        rw [same_str, decide_eq_false (fun e => hn.1 (List.mem_map.2 ⟨g, hg, e⟩))]
        simp
      rw [List.filter_cons_of_pos (by simp [same_str]), List.filter_cons_of_neg (by simp [hl]), e1, total_cons]
      omega
    · have hne : x.name ≠ f.name := fun e => hn.1 (List.mem_map.2 ⟨f, h, e.symm⟩)
      have := ih hn.2 h
      cases hx : left (.string x.name)
      · rw [List.filter_cons_of_pos (by simp [hx]), List.filter_cons_of_pos (by simp [hx]), total_cons, total_cons]; omega
      · rw [List.filter_cons_of_neg (by simp [hx, same_str, hne]), List.filter_cons_of_neg (by simp [hx])]; exact this

set_option maxHeartbeats 1000000 in
theorem size_any (k : Dsk) (w : World) (h : Dk w k) :
    Calls Tryd.prog 25 #[ptr k.d] w fun e w' => e = .returned (.int .i64 (total k.files : Nat)) ∧ Old w w' := by
  have c1 := h.disk.at_ 1 rfl
  obtain ⟨D, hown, hR⟩ := h.map
  have hroom := h.ok.room
  have hcap := h.ok.capb
  have HN := Lib.hid h.ok.names
  have HF := Lib.hid fun wr (o : Old w wr) (f : Fl) (hf : f ∈ k.files) => ((h.old o).files f hf).at_ 0 rfl
  have HL := Lib.hid fun (f : Fl) (hf : f ∈ k.files) (left : Lit → Bool) (hl : left (.string f.name) = true) => past_step h.ok.names hf hl
  have hrw : ∀ a b : Nat, a + b ≤ 1000000000000 → IntKind.i64.wrap ((a : Int) + (b : Int)) = (a : Int) + (b : Int) := fun a b hab => by rw [IntKind.wrap_i64]; omega
  have HRW := Lib.hid hrw
  clear hrw h
  go_enter Tryd.func25, Tryd.ntmps25
  go_wp2_with (first | (at_range; refine wpList_range_own _ rfl _ 56 rfl 9 81 lawS Tryd.underlying56 _ k.m k.files.length D rfl hown ?_; intro w0 hrg0 hg0 hs0) | fail)
  go_frame
  have ho0 : Old w w0 := (Below.refl _ _).grown hg0 (Nat.le_refl _) (fun j hj => by cases hj)
  go_loopw [3] (fun n wr => ∃ left cnt, wr.ranges Tryd.prog 9 ptrR k.m w.heap.size k.files.length D left cnt ∧ n = .int .i64 (past k.files left : Nat) ∧ Old w wr) (fun _ wr => wr.rangeLeft k.m w.heap.size)
  case atStart => exact ⟨_, _, hrg0, by rw [past_start hR HN.out]; rfl, ho0⟩
  case round =>
    clear hrg0 hg0 hs0 ho0
    obtain ⟨left, cnt, hrg, rfl, hO⟩ := hrel
    go_wp2_with (first | (at_next; refine wp_next_file rfl _ rfl k.files D hR k.m w.heap.size k.files.length left cnt rfl hrg ?_ ?_) | fail)
    · intro hl
      rw [past_end _ _ hl]
      go_wp2
      go_ret
      exact ⟨rfl, hO⟩
    · intro f w1 cnt1 hf hl hrg1 hlt hg1 hen
      have ho1 : Old w w1 := hO.grown hg1 hO.size (fun j hj => by cases hj; exact Nat.le_refl _)
      have c2 := HF.out w1 ho1 f hf
      have hst := HL.out f hf left hl
      have hle := past_le k.files (fun z => left z && !z.sameKey (.string f.name))
      rw [hst] at hle
      have HS := Lib.hid hst
      clear hst
      have hrw := HRW.out (past k.files left) f.s.length (by omega)
      have HM := Lib.hid (show w1.rangeLeft k.m w.heap.size < wr.rangeLeft k.m w.heap.size by rw [hrg1.left_eq, hrg.left_eq]; exact hlt)
      clear hg1 hlt
      go_wp2
      go_roundw
      case rel => exact ⟨_, _, hrg1, by rw [HS.out]; go_num, ho1⟩
      case measure => exact HM.out
end Go.Proofs.YtilimfbjkgeciaaDoor
