/-
  CompactFunc of a slice of items that are in order. Conditions: lengths as written.
-/
import Derived.Test.YtbccpplpfcfboaaRSta
import Derived.Lib.SliceRun
import Derived.Laws.CopyRow
import Derived.Laws.CopyOwn
namespace Go.Proofs.Ytbccpplpfcfboaa
open Go.RowKit

/-- The function that tells whether two items have one coordinate, as a value. -/
abbrev fS : Value := .func (.func 51) #[] #[]
abbrev zeroItem : Array Value := #[.string ⟨#[]⟩, .string ⟨#[]⟩, .int .u64 0, .int .u64 0, .bool false, .string ⟨#[]⟩, .int .i64 0]
theorem Try.infoItem : (Try.prog.info? 59).map (fun i => (i.zero, i.size, i.bytes)) = some (some (.agg zeroItem), 7, 80) := by kernel_rfl
theorem info_parts {P : Program} {t : TypeId} {z : Value} {n b : Nat} (h : (P.info? t).map (fun i => (i.zero, i.size, i.bytes)) = some (some z, n, b)) : ∃ i, P.info? t = some i ∧ i.zero = some z ∧ i.size = n ∧ i.bytes = b := by
  cases hi : P.info? t with
  | none => rw [hi] at h; cases h
  | some i =>
    rw [hi] at h
    simp only [Option.map_some, Option.some.injEq, Prod.mk.injEq] at h
    exact ⟨i, rfl, h.1, h.2.1, h.2.2⟩
theorem zero_one (n : Nat) : ∀ u ∈ (Builtin.zeroCells zeroItem n).toList, u.oneCell' = true := by
  intro u hu
  simp only [Builtin.zeroCells, Array.toList_map, List.mem_map] at hu
  obtain ⟨i, -, rfl⟩ := hu
  have h : i % zeroItem.size = 0 ∨ i % zeroItem.size = 1 ∨ i % zeroItem.size = 2 ∨ i % zeroItem.size = 3 ∨ i % zeroItem.size = 4 ∨ i % zeroItem.size = 5 ∨ i % zeroItem.size = 6 := by
    rw [show zeroItem.size = 7 from rfl]
    omega
  rcases h with h | h | h | h | h | h | h <;> (rw [h]; rfl)
theorem zero_len (n : Nat) : (Builtin.zeroCells zeroItem n).toList.length = n * 7 := by
  simp [Builtin.zeroCells]
/-- clear of what stands behind. -/
theorem clear_its {W0 w : World} {g n k c : Nat} {K J : List Itm} {r : List Value} (o : Old W0 w) (hg : W0.heap.size ≤ g) (hs : Seg w g (K ++ J) r) (hk : k = K.length) (hJ : J.length = n) (hn : 0 < n) :
    ∃ w', (∀ ty, (Builtin.clear_ #[32] ty #[.slice (some ⟨g, k * 7, none⟩) n c]).run Try.prog w = .ok (.tuple #[]) w') ∧ Old W0 w' ∧ ∃ r', Seg w' g K r' := by
  obtain ⟨i0, hi, hz0, hz1, hz2⟩ := info_parts Try.infoItem
  have hv : (zeroValue 59).run Try.prog w = .ok (.agg zeroItem) w := by
    simp [zeroValue, typeInfo, hi, hz0]
  have hst := run_storeCells_at Try.prog g (k * 7) 59 (Builtin.zeroCells zeroItem n).toList 0 _ w hs (by
    rw [zero_len]
    simp [flat_len, flat_app]; omega) (zero_one n)
  obtain ⟨m, rfl⟩ : ∃ m, n = m + 1 := ⟨n - 1, by omega⟩
  refine ⟨_, fun ty => by
    simp only [Builtin.clear_, List.getElem?_toArray, List.getElem?_cons_zero, Sem.run_bind, run_underlying Try.underlying32, Result.andThen_ok, hv, Value.cells, hst]
    rfl, ?_, ?_⟩
  · exact below_setRow o hg _
  · have h1 := setRow_heap w g _ ((flat (K ++ J) ++ r).toArray.toList.take (k * 7 + 0) ++ (Builtin.zeroCells zeroItem (m + 1)).toList ++ (flat (K ++ J) ++ r).toArray.toList.drop (k * 7 + 0 + (Builtin.zeroCells zeroItem (m + 1)).toList.length)).toArray _ _ hs
    have h2 : (flat (K ++ J) ++ r).toArray.toList.take (k * 7 + 0) = flat K := by
      rw [flat_app, List.append_assoc, Nat.add_zero, hk, ← flat_len]
      simp
    rw [h2, List.append_assoc] at h1
    rw [h2, List.append_assoc]
    exact ⟨_, h1⟩
theorem ret_sl {A : Option Addr} {n m c : Nat} (h : n = m) : Ending.returned (.slice A n c) = .returned (.slice A m c) := by rw [h]
theorem same_neg {x y : Itm} {b : Bool} (h : sameI x y = b) : (!sameI x y) = !b := by rw [h]

set_option maxRecDepth 100000 in
set_option maxHeartbeats 4000000 in
theorem compact_any (W0 w : World) (g cap n : Nat) (D : List Itm) (r : List Value) (o : Old W0 w) (hg : W0.heap.size ≤ g) (hs : Seg w g D r) (hn : n = D.length) (hmax : n ≤ 100000) (hcap : n ≤ cap) :
    Calls Try.prog 50 #[.slice (some ⟨g, 0, none⟩) n cap, fS] w fun e w' => e = .returned (.slice (some ⟨g, 0, none⟩) (dd D).length cap) ∧ Old W0 w' ∧ ∃ r', Seg w' g (dd D) r' := by
  by_cases h2 : n < 2
  · have hd : dd D = D := by
      match D, hn with
      | [], _ => rfl
      | [x], _ => rfl
      | x :: y :: l, hn => simp at hn; omega
    have HE := Lib.hid (show ∃ r', Seg w g (dd D) r' by rw [hd]; exact ⟨r, hs⟩)
    have HL := Lib.hid (show n = (dd D).length by rw [hd, hn])
    clear hd hn hs
    go_enter Try.func50, Try.ntmps50
    go_wp2
    go_ret
    exact ⟨ret_sl HL.out, o, HE.out⟩
  obtain ⟨x0, D0, hD⟩ : ∃ x0 D0, D = x0 :: D0 := by
    cases D with
    | nil => simp at hn; omega
    | cons x D => exact ⟨x, D, rfl⟩
  have HD := Lib.hid hD
  have HS := Lib.hid hs
  have HN := Lib.hid hn
  clear hn hs hD
  go_enter Try.func50, Try.ntmps50
  go_wp2_with fail
  go_loopw [5] (fun kv wr => ∃ (k : Nat) (K R : List Itm) (p : Itm), kv = .int .i64 ((k : Int) + 1) ∧ k + 1 ≤ n ∧ Old W0 wr ∧ Hid (D = K ++ p :: R ∧ k = K.length ∧ dd D = K ++ p :: cmpt p R) ∧ Hid (Seg wr g D r)) (fun kv _ => n + 1 - (intOf kv).toNat)
  case atStart => exact ⟨0, [], D0, x0, rfl, by omega, o, Lib.hid (by rw [HD.out]; exact ⟨rfl, rfl, rfl⟩), HS⟩
  case round =>
    obtain ⟨k, K, R, p, rfl, hk, o1, HM, HS1⟩ := hrel
    by_cases hlt : k + 1 < n
    · obtain ⟨q, R', HR⟩ : ∃ q R', Hid (R = q :: R' ∧ At7 wr g ((k + 1) * 7) q ∧ At7 wr g (k * 7) p) := by
        obtain ⟨e1, e2, e3⟩ := HM.out
        have hn := HN.out
        have s1 := HS1.out
        rw [e1] at s1 hn
        cases R with
        | nil => simp at hn; omega
        | cons q R' =>
          obtain ⟨k1, k2, -, -⟩ := swap_adj K R' p q k e2
          exact ⟨q, R', Lib.hid ⟨rfl, s1.at_ k2, s1.at_ k1⟩⟩
      have hS := pr_of HR.out.2.1 HR.out.2.2
      have hw1 : IntKind.i64.wrap ((k : Int) + 1 - 1) = (k : Int) := by rw [IntKind.wrap_i64]; omega
      have hw2 : IntKind.i64.wrap (k : Int) = (k : Int) := by rw [IntKind.wrap_i64]; omega
      have hb1 : (0 : Int) ≤ (k : Int) := by omega
      have hb2 : (k : Int) < (n : Int) := by omega
      have hb3 : (k : Int) + 1 < (n : Int) := by omega
      have hb4 : (0 : Int) ≤ (k : Int) + 1 := by omega
      have hb5 : ((k : Int) + 1).toNat = k + 1 := by omega
      go_wp2_with fail
      go_region_held3 (fun W => Old wr W ∧ W.cell? ⟨g, (k + 1) * 7, none⟩ = some (.string (B q.c.row)) ∧ W.cell? ⟨g, (k + 1) * 7 + 1, none⟩ = some (.string (B q.c.col)) ∧ W.cell? ⟨g, (k + 1) * 7 + 2, none⟩ = some (.int .u64 q.c.ts) ∧ W.cell? ⟨g, (k + 1) * 7 + 3, none⟩ = some (.int .u64 q.c.seq) ∧ W.cell? ⟨g, (k + 1) * 7 + 4, none⟩ = some (.bool q.c.del) ∧ W.cell? ⟨g, (k + 1) * 7 + 5, none⟩ = some (.string (B q.c.val)) ∧ W.cell? ⟨g, (k + 1) * 7 + 6, none⟩ = some (.int .i64 q.pos) ∧ W.cell? ⟨g, k * 7, none⟩ = some (.string (B p.c.row)) ∧ W.cell? ⟨g, k * 7 + 1, none⟩ = some (.string (B p.c.col)) ∧ W.cell? ⟨g, k * 7 + 2, none⟩ = some (.int .u64 p.c.ts) ∧ W.cell? ⟨g, k * 7 + 3, none⟩ = some (.int .u64 p.c.seq) ∧ W.cell? ⟨g, k * 7 + 4, none⟩ = some (.bool p.c.del) ∧ W.cell? ⟨g, k * 7 + 5, none⟩ = some (.string (B p.c.val)) ∧ W.cell? ⟨g, k * 7 + 6, none⟩ = some (.int .i64 p.pos)) (first | exact ⟨hS.1.dr, hS.2⟩ | exact pr_old (by assumption) (by assumption))
        (first
          | (go_at_call 51; with_reducible refine (sameAs_any q p _).mono ?_; rintro r w1 ⟨rfl, h1b⟩))
      rename_i hHeld
      have f9 : Old wr w1 := hHeld.1
      clear hS hHeld h1b
      have HS2 := Lib.hid (HS1.out.old f9)
      have o2 := o1.tr f9
      cases hsm : sameI q p with
      | true =>
        have HM2 : Hid (D = K ++ [p] ++ [] ++ q :: R' ∧ k + 1 = (K ++ [p]).length ∧ dd D = K ++ [p] ++ cmpt q R') := by
          obtain ⟨e1, e2, e3⟩ := HM.out
          obtain ⟨rfl, -, -⟩ := HR.out
          exact Lib.hid ⟨by simpa using e1, by simp; omega, by rw [e3, cmpt, if_pos hsm]; simp⟩
        clear hsm HM HR HS1 o1 f9 HS hw1 hw2
        go_wp2_with fail
        go_loopw [5, 7] (fun kv jv wr => ∃ (kk j : Nat) (K J R : List Itm) (p : Itm), kv = .int .i64 kk ∧ jv = .int .i64 ((j : Int) + 1) ∧ kk ≤ k + 1 + j ∧ k + 1 + j < n ∧ Old W0 wr ∧ Hid (kk = K.length ∧ k + 1 + j = K.length + J.length ∧ n = (K ++ J ++ p :: R).length ∧ dd D = K ++ cmpt p R) ∧ Hid (Seg wr g (K ++ J ++ p :: R) r)) (fun _ jv _ => n + 1 - (intOf jv).toNat)
        case atStart =>
          obtain ⟨e1, e2, e3⟩ := HM2.out
          exact ⟨k + 1, 0, K ++ [p], [], R', q, by go_num, by go_num, by omega, by omega, o2, Lib.hid ⟨e2, by simp at e2 ⊢; omega, by rw [← e1]; exact HN.out, e3⟩, Lib.hid (by rw [← e1]; exact HS2.out)⟩
        case round =>
          clear HM2 HS2 o2
          obtain ⟨kk, j, K, J, R, p, rfl, rfl, hkj, hjn, o1, HM, HS1⟩ := hrel
          by_cases hlt2 : k + 1 + j + 1 < n
          · obtain ⟨q, R', HR⟩ : ∃ q R', Hid (R = q :: R' ∧ At7 wr g ((k + 1) * 7 + (j + 1) * 7) q ∧ At7 wr g ((k + 1) * 7 + j * 7) p) := by
              obtain ⟨e1, e2, e3, e4⟩ := HM.out
              have s1 := HS1.out
              cases R with
              | nil => simp at e3; omega
              | cons q R' =>
                obtain ⟨k1, k2, -, -⟩ := swap_adj (K ++ J) R' p q (k + 1 + j) (by simp; omega)
                refine ⟨q, R', Lib.hid ⟨rfl, ?_, ?_⟩⟩
                · rw [show (k + 1) * 7 + (j + 1) * 7 = (k + 1 + j + 1) * 7 by omega]; exact s1.at_ k2
                · rw [show (k + 1) * 7 + j * 7 = (k + 1 + j) * 7 by omega]; exact s1.at_ k1
            have hS := pr_of HR.out.2.1 HR.out.2.2
            have hw1 : IntKind.i64.wrap ((j : Int) + 1 - 1) = (j : Int) := by rw [IntKind.wrap_i64]; omega
            have hw2 : IntKind.i64.wrap (j : Int) = (j : Int) := by rw [IntKind.wrap_i64]; omega
            have hb6 : (0 : Int) ≤ (j : Int) := by omega
            have hb7 : (j : Int) < ((n - (k + 1) : Nat) : Int) := by omega
            have hb8 : (j : Int) + 1 < ((n - (k + 1) : Nat) : Int) := by omega
            have hb9 : (0 : Int) ≤ (j : Int) + 1 := by omega
            have hb10 : ((j : Int) + 1).toNat = j + 1 := by omega
            go_wp2_with fail
            go_region_held3 (fun W => Old wr W ∧ W.cell? ⟨g, (k + 1) * 7 + (j + 1) * 7, none⟩ = some (.string (B q.c.row)) ∧ W.cell? ⟨g, (k + 1) * 7 + (j + 1) * 7 + 1, none⟩ = some (.string (B q.c.col)) ∧ W.cell? ⟨g, (k + 1) * 7 + (j + 1) * 7 + 2, none⟩ = some (.int .u64 q.c.ts) ∧ W.cell? ⟨g, (k + 1) * 7 + (j + 1) * 7 + 3, none⟩ = some (.int .u64 q.c.seq) ∧ W.cell? ⟨g, (k + 1) * 7 + (j + 1) * 7 + 4, none⟩ = some (.bool q.c.del) ∧ W.cell? ⟨g, (k + 1) * 7 + (j + 1) * 7 + 5, none⟩ = some (.string (B q.c.val)) ∧ W.cell? ⟨g, (k + 1) * 7 + (j + 1) * 7 + 6, none⟩ = some (.int .i64 q.pos) ∧ W.cell? ⟨g, (k + 1) * 7 + j * 7, none⟩ = some (.string (B p.c.row)) ∧ W.cell? ⟨g, (k + 1) * 7 + j * 7 + 1, none⟩ = some (.string (B p.c.col)) ∧ W.cell? ⟨g, (k + 1) * 7 + j * 7 + 2, none⟩ = some (.int .u64 p.c.ts) ∧ W.cell? ⟨g, (k + 1) * 7 + j * 7 + 3, none⟩ = some (.int .u64 p.c.seq) ∧ W.cell? ⟨g, (k + 1) * 7 + j * 7 + 4, none⟩ = some (.bool p.c.del) ∧ W.cell? ⟨g, (k + 1) * 7 + j * 7 + 5, none⟩ = some (.string (B p.c.val)) ∧ W.cell? ⟨g, (k + 1) * 7 + j * 7 + 6, none⟩ = some (.int .i64 p.pos)) (first | exact ⟨hS.1.dr, hS.2⟩ | exact pr_old (by assumption) (by assumption))
              (first
                | (go_at_call 51; with_reducible refine (sameAs_any q p _).mono ?_; rintro r w1 ⟨rfl, h1b⟩))
            rename_i hHeld
            have f9 : Old wr w1 := hHeld.1
            clear hS hHeld h1b
            have o2 := o1.tr f9
            cases hsm : sameI q p with
            | true =>
              have HM2 : Hid (kk = K.length ∧ k + 1 + (j + 1) = K.length + (J ++ [p]).length ∧ n = (K ++ (J ++ [p]) ++ q :: R').length ∧ dd D = K ++ cmpt q R') := by
                obtain ⟨e1, e2, e3, e4⟩ := HM.out
                obtain ⟨rfl, -, -⟩ := HR.out
                exact Lib.hid ⟨e1, by simp; omega, by rw [e3]; simp, by rw [e4, cmpt, if_pos hsm]⟩
              have HS2 : Hid (Seg w1 g (K ++ (J ++ [p]) ++ q :: R') r) := by
                obtain ⟨rfl, -, -⟩ := HR.out
                exact Lib.hid (Seg.eq (HS1.out.old f9) (by simp))
              clear hsm HM HR HS1 o1 f9 hw1 hw2 hb6 hb7 hb8 hb9 hb10
              go_wp2
              go_round
              case rel => exact ⟨kk, j + 1, K, J ++ [p], R', q, by go_num, by go_num, by omega, by omega, o2, HM2, HS2⟩
              case measure => simp [intOf]; omega
            | false =>
              obtain ⟨z, J', HJ⟩ : ∃ z J', Hid (J ++ [p] = z :: J') := by
                cases J with
                | nil => exact ⟨p, [], Lib.hid rfl⟩
                | cons z J' => exact ⟨z, J' ++ [p], Lib.hid rfl⟩
              have HM2 : Hid (kk + 1 = (K ++ [q]).length ∧ k + 1 + (j + 1) = (K ++ [q]).length + J'.length ∧ n = (K ++ [q] ++ J' ++ q :: R').length ∧ dd D = K ++ [q] ++ cmpt q R') := by
                obtain ⟨e1, e2, e3, e4⟩ := HM.out
                obtain ⟨rfl, -, -⟩ := HR.out
                have hl := congrArg List.length HJ.out
                simp at hl
                exact Lib.hid ⟨by simp; omega, by simp; omega, by rw [e3]; simp; omega, by rw [e4, cmpt, if_neg (by simp [hsm])]; simp⟩
              obtain ⟨HX, HSF⟩ : Hid (At7 w1 g ((k + 1) * 7 + (j + 1) * 7) q ∧ At7 w1 g (kk * 7) z) ∧ Hid (∀ _ : Unit, Seg (putI w1 g (kk * 7) q) g (K ++ [q] ++ J' ++ q :: R') r) := by
                obtain ⟨e1, e2, e3, e4⟩ := HM.out
                obtain ⟨rfl, h1, h2⟩ := HR.out
                have e : K ++ J ++ p :: q :: R' = K ++ z :: (J' ++ q :: R') := by
                  have := HJ.out
                  rw [show K ++ J ++ p :: q :: R' = K ++ (J ++ [p]) ++ q :: R' by simp, this]
                  simp
                have s1 := HS1.out.old f9
                rw [e] at s1
                refine ⟨Lib.hid ⟨h1.old f9, s1.at_ (by rw [e1]; simp)⟩, Lib.hid fun _ => ?_⟩
                have e5 : K ++ [q] ++ J' ++ q :: R' = (K ++ z :: (J' ++ q :: R')).set kk q := by rw [e1]; simp
                rw [e5]
                exact s1.put (by rw [e1]; simp) q
              have HFR := Lib.hid (show ∀ z, w1.frozen? ⟨g, z, none⟩ = false from fun z => Bk.fr (HS1.out.old f9) z)
              clear hsm HM HR HS1 o1 f9 hw1 hw2
              obtain ⟨x0, x1, x2, x3, x4, x5, x6⟩ := HX.out.1.held
              obtain ⟨y0, y1, y2, y3, y4, y5, y6⟩ := HX.out.2.held
              have fr := HFR.out
              go_wp2
              have o3 := (o2.putI hg (kk * 7) q)
              have hf := HSF.out ()
              unfold putI at o3 hf
              have HG := Lib.hid hf
              clear x0 x1 x2 x3 x4 x5 x6 y0 y1 y2 y3 y4 y5 y6 fr hf HSF HX HFR
              go_round
              case rel => exact ⟨kk + 1, j + 1, K ++ [q], J', R', q, by go_num, by go_num, by omega, by omega, o3, HM2, HG⟩
              case measure => simp [intOf]; omega
          · obtain ⟨w2, HC, o2, HZ⟩ : ∃ w2, Hid (∀ ty, (Builtin.clear_ #[32] ty #[.slice (some ⟨g, kk * 7, none⟩) (n - kk) (cap - kk)]).run Try.prog wr = .ok (.tuple #[]) w2) ∧ Old W0 w2 ∧ Hid ((∃ r', Seg w2 g (dd D) r') ∧ kk = (dd D).length) := by
              obtain ⟨e1, e2, e3, e4⟩ := HM.out
              have hR : R = [] := by
                simp at e3
                exact List.eq_nil_of_length_eq_zero (by omega)
              subst hR
              have e5 : dd D = K := by rw [e4]; simp [cmpt]
              simp at e3
              obtain ⟨w2, h1, h2, h3⟩ := clear_its (c := cap - kk) (J := J ++ [p]) o1 hg (Seg.eq HS1.out (by simp)) e1 (n := n - kk) (by simp; omega) (by omega)
              exact ⟨w2, Lib.hid h1, h2, Lib.hid ⟨by rw [e5]; exact h3, by rw [e5]; exact e1⟩⟩
            clear HM HS1
            have hcl := HC.out
            go_wp2
            go_ret
            exact ⟨ret_sl HZ.out.2, o2, HZ.out.1⟩
      | false =>
        have HM2 : Hid (D = (K ++ [p]) ++ q :: R' ∧ k + 1 = (K ++ [p]).length ∧ dd D = (K ++ [p]) ++ q :: cmpt q R') := by
          obtain ⟨e1, e2, e3⟩ := HM.out
          obtain ⟨rfl, -, -⟩ := HR.out
          exact Lib.hid ⟨by simpa using e1, by simp; omega, by rw [e3, cmpt, if_neg (by simp [hsm])]; simp⟩
        clear hsm HM HR HS1 o1 f9 HS hw1 hw2
        go_wp2
        go_roundw
        case rel => exact ⟨k + 1, K ++ [p], R', q, by go_num, by omega, o2, HM2, HS2⟩
        case measure => simp [intOf]; omega
    · have HE : Hid (n = (dd D).length ∧ ∃ r', Seg wr g (dd D) r') := by
        obtain ⟨e1, e2, e3⟩ := HM.out
        have hn := HN.out
        have hR : R = [] := by
          rw [e1] at hn
          simp at hn
          exact List.eq_nil_of_length_eq_zero (by omega)
        subst hR
        have e4 : dd D = D := by rw [e3, e1]; rfl
        exact Lib.hid ⟨by rw [e4]; exact hn, by rw [e4]; exact ⟨r, HS1.out⟩⟩
      clear HM HS1
      go_wp2
      go_ret
      exact ⟨ret_sl HE.out.1, o1, HE.out.2⟩
end Go.Proofs.Ytbccpplpfcfboaa
