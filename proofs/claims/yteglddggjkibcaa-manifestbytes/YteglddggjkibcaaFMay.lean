/-
  Which files may be: the code's May and the reference's; how rows and files stand. No conditions.
-/
import Derived.Test.YteglddggjkibcaaFOwn
import Derived.Test.YteglddggjkibcaaFCmp
namespace Go.Proofs.Yteglddggjkibcaa
open Go.RowKit

/-- The one text stands at the other, or ahead of it. -/
def leT (s t : List UInt8) : Bool := Op.bytesLess s t || s == t
theorem leT_iff (s t : List UInt8) : leT s t = true ↔ cmpT s t ≤ 0 := by
  unfold leT cmpT
  by_cases h : Op.bytesLess s t = true
  · simp [h]
  · by_cases h2 : s = t
    · subst h2; simp [h]
    · simp [h, h2]
theorem lt_iff (s t : List UInt8) : Op.bytesLess s t = true ↔ cmpT s t = -1 := by
  unfold cmpT
  by_cases h : Op.bytesLess s t = true
  · simp [h]
  · by_cases h2 : s = t
    · subst h2; simp [h]
    · simp [h, h2]
theorem leT_trans {s t u : List UInt8} (h1 : leT s t = true) (h2 : leT t u = true) : leT s u = true := by
  rw [leT_iff] at *
  rcases cmpT_vals s t with a | a | a
  · rcases cmpT_vals t u with b | b | b
    · rw [cmpT_trans s t u a b]; omega
    · rw [← cmpT_zero t u b, a]; omega
    · omega
  · rw [cmpT_zero s t a]; exact h2
  · omega
def nameB (n : Nat) (s : List UInt8) : Bool := decide (1 ≤ s.length) && decide (s.length ≤ n)
/-- Whether a file may be. -/
def mayF (x : Itm) : Bool := decide (0 ≤ x.lev) && (decide (x.lev < 3) && (nameB 59 x.name && (nameB 40 x.low && (nameB 40 x.high && (leT x.low x.high && (decide (1 ≤ x.many) && decide (x.many ≤ 2000)))))))

set_option maxHeartbeats 400000 in
theorem mayName_any (s : List UInt8) (w : World) :
    Calls Try.prog 44 #[.string (B s)] w fun e w' => e = .returned (.bool (nameB 59 s)) ∧ w' = w := by
  by_cases h1 : 1 ≤ s.length <;> by_cases h2 : s.length ≤ 59 <;> (go_enter Try.func44, Try.ntmps44; go_wp2; all_goals (go_ret; refine ⟨ret_bool ?_, rfl⟩; simp [nameB, h1, h2]; try omega))
set_option maxHeartbeats 400000 in
theorem mayRow_any (s : List UInt8) (w : World) :
    Calls Try.prog 57 #[.string (B s)] w fun e w' => e = .returned (.bool (nameB 40 s)) ∧ w' = w := by
  by_cases h1 : 1 ≤ s.length <;> by_cases h2 : s.length ≤ 40 <;> (go_enter Try.func57, Try.ntmps57; go_wp2; all_goals (go_ret; refine ⟨ret_bool ?_, rfl⟩; simp [nameB, h1, h2]; try omega))
set_option maxHeartbeats 400000 in
theorem rname_any (s : List UInt8) (n : Nat) (z : Int) (hz : z = (n : Int)) (w : World) :
    Calls Try.prog 48 #[.string (B s), .int .i64 z] w fun e w' => e = .returned (.bool (nameB n s)) ∧ w' = w := by
  subst hz
  by_cases h1 : 1 ≤ s.length <;> by_cases h2 : s.length ≤ n <;> (go_enter Try.func48, Try.ntmps48; go_wp2; all_goals (go_ret; refine ⟨ret_bool ?_, rfl⟩; simp [nameB, h1, h2]; try omega))
set_option maxHeartbeats 400000 in
theorem hasRows_any (x : Itm) (w : World) :
    Calls Try.prog 58 #[iv x] w fun e w' => e = .returned (.bool (leT x.low x.high)) ∧ Old w w' := by
  go_enter Try.func58, Try.ntmps58
  go_wp2
  all_goals (go_ret; refine ⟨ret_bool ?_, old_alloc _ _⟩; unfold leT; simp_all)
set_option maxHeartbeats 2000000 in
theorem may_any (x : Itm) (w : World) :
    Calls Try.prog 26 #[iv x] w fun e w' => e = .returned (.bool (mayF x)) ∧ Old w w' := by
  unfold mayF
  have C1 := fun w => mayName_any x.name w
  have C2 := fun w => mayRow_any x.low w
  have C3 := fun w => mayRow_any x.high w
  have C4 := fun w => hasRows_any x w
  generalize leT x.low x.high = b4 at *
  generalize nameB 59 x.name = b1 at *
  generalize nameB 40 x.low = b2 at *
  generalize nameB 40 x.high = b3 at *
  by_cases g1 : 0 ≤ x.lev
  · by_cases g2 : x.lev < 3
    · cases b1
      · (go_enter Try.func26, Try.ntmps26; go_wp2_with (first | (go_at_call 44; refine (C1 _).mono ?_; rintro e w1 ⟨rfl, rfl⟩) | (go_at_call 57; first | (with_reducible refine (C2 _).mono ?_; rintro e w1 ⟨rfl, rfl⟩) | (with_reducible refine (C3 _).mono ?_; rintro e w1 ⟨rfl, rfl⟩)) | (go_at_call 58; refine (C4 _).mono ?_; rintro e w1 ⟨rfl, o1⟩; have q4 : w1.cell? ⟨w.heap.size, 4, none⟩ = some (.int .i64 x.many) := Bk.cell ((new_bk _ _ _).old o1) 4)); go_ret; refine ⟨ret_bool (by simp [*]; try omega), ?_⟩; first | exact old_alloc _ _ | exact (old_alloc _ _).tr (by assumption))
      · cases b2
        · (go_enter Try.func26, Try.ntmps26; go_wp2_with (first | (go_at_call 44; refine (C1 _).mono ?_; rintro e w1 ⟨rfl, rfl⟩) | (go_at_call 57; first | (with_reducible refine (C2 _).mono ?_; rintro e w1 ⟨rfl, rfl⟩) | (with_reducible refine (C3 _).mono ?_; rintro e w1 ⟨rfl, rfl⟩)) | (go_at_call 58; refine (C4 _).mono ?_; rintro e w1 ⟨rfl, o1⟩; have q4 : w1.cell? ⟨w.heap.size, 4, none⟩ = some (.int .i64 x.many) := Bk.cell ((new_bk _ _ _).old o1) 4)); go_ret; refine ⟨ret_bool (by simp [*]; try omega), ?_⟩; first | exact old_alloc _ _ | exact (old_alloc _ _).tr (by assumption))
        · cases b3
          · (go_enter Try.func26, Try.ntmps26; go_wp2_with (first | (go_at_call 44; refine (C1 _).mono ?_; rintro e w1 ⟨rfl, rfl⟩) | (go_at_call 57; first | (with_reducible refine (C2 _).mono ?_; rintro e w1 ⟨rfl, rfl⟩) | (with_reducible refine (C3 _).mono ?_; rintro e w1 ⟨rfl, rfl⟩)) | (go_at_call 58; refine (C4 _).mono ?_; rintro e w1 ⟨rfl, o1⟩; have q4 : w1.cell? ⟨w.heap.size, 4, none⟩ = some (.int .i64 x.many) := Bk.cell ((new_bk _ _ _).old o1) 4)); go_ret; refine ⟨ret_bool (by simp [*]; try omega), ?_⟩; first | exact old_alloc _ _ | exact (old_alloc _ _).tr (by assumption))
          · cases b4
            · (go_enter Try.func26, Try.ntmps26; go_wp2_with (first | (go_at_call 44; refine (C1 _).mono ?_; rintro e w1 ⟨rfl, rfl⟩) | (go_at_call 57; first | (with_reducible refine (C2 _).mono ?_; rintro e w1 ⟨rfl, rfl⟩) | (with_reducible refine (C3 _).mono ?_; rintro e w1 ⟨rfl, rfl⟩)) | (go_at_call 58; refine (C4 _).mono ?_; rintro e w1 ⟨rfl, o1⟩; have q4 : w1.cell? ⟨w.heap.size, 4, none⟩ = some (.int .i64 x.many) := Bk.cell ((new_bk _ _ _).old o1) 4)); go_ret; refine ⟨ret_bool (by simp [*]; try omega), ?_⟩; first | exact old_alloc _ _ | exact (old_alloc _ _).tr (by assumption))
            · by_cases g3 : 1 ≤ x.many
              · by_cases g4 : x.many ≤ 2000
                · (go_enter Try.func26, Try.ntmps26; go_wp2_with (first | (go_at_call 44; refine (C1 _).mono ?_; rintro e w1 ⟨rfl, rfl⟩) | (go_at_call 57; first | (with_reducible refine (C2 _).mono ?_; rintro e w1 ⟨rfl, rfl⟩) | (with_reducible refine (C3 _).mono ?_; rintro e w1 ⟨rfl, rfl⟩)) | (go_at_call 58; refine (C4 _).mono ?_; rintro e w1 ⟨rfl, o1⟩; have q4 : w1.cell? ⟨w.heap.size, 4, none⟩ = some (.int .i64 x.many) := Bk.cell ((new_bk _ _ _).old o1) 4)); go_ret; refine ⟨ret_bool (by simp [*]; try omega), ?_⟩; first | exact old_alloc _ _ | exact (old_alloc _ _).tr (by assumption))
                · (go_enter Try.func26, Try.ntmps26; go_wp2_with (first | (go_at_call 44; refine (C1 _).mono ?_; rintro e w1 ⟨rfl, rfl⟩) | (go_at_call 57; first | (with_reducible refine (C2 _).mono ?_; rintro e w1 ⟨rfl, rfl⟩) | (with_reducible refine (C3 _).mono ?_; rintro e w1 ⟨rfl, rfl⟩)) | (go_at_call 58; refine (C4 _).mono ?_; rintro e w1 ⟨rfl, o1⟩; have q4 : w1.cell? ⟨w.heap.size, 4, none⟩ = some (.int .i64 x.many) := Bk.cell ((new_bk _ _ _).old o1) 4)); go_ret; refine ⟨ret_bool (by simp [*]; try omega), ?_⟩; first | exact old_alloc _ _ | exact (old_alloc _ _).tr (by assumption))
              · (go_enter Try.func26, Try.ntmps26; go_wp2_with (first | (go_at_call 44; refine (C1 _).mono ?_; rintro e w1 ⟨rfl, rfl⟩) | (go_at_call 57; first | (with_reducible refine (C2 _).mono ?_; rintro e w1 ⟨rfl, rfl⟩) | (with_reducible refine (C3 _).mono ?_; rintro e w1 ⟨rfl, rfl⟩)) | (go_at_call 58; refine (C4 _).mono ?_; rintro e w1 ⟨rfl, o1⟩; have q4 : w1.cell? ⟨w.heap.size, 4, none⟩ = some (.int .i64 x.many) := Bk.cell ((new_bk _ _ _).old o1) 4)); go_ret; refine ⟨ret_bool (by simp [*]; try omega), ?_⟩; first | exact old_alloc _ _ | exact (old_alloc _ _).tr (by assumption))
    · (go_enter Try.func26, Try.ntmps26; go_wp2_with (first | (go_at_call 44; refine (C1 _).mono ?_; rintro e w1 ⟨rfl, rfl⟩) | (go_at_call 57; first | (with_reducible refine (C2 _).mono ?_; rintro e w1 ⟨rfl, rfl⟩) | (with_reducible refine (C3 _).mono ?_; rintro e w1 ⟨rfl, rfl⟩)) | (go_at_call 58; refine (C4 _).mono ?_; rintro e w1 ⟨rfl, o1⟩; have q4 : w1.cell? ⟨w.heap.size, 4, none⟩ = some (.int .i64 x.many) := Bk.cell ((new_bk _ _ _).old o1) 4)); go_ret; refine ⟨ret_bool (by simp [*]; try omega), ?_⟩; first | exact old_alloc _ _ | exact (old_alloc _ _).tr (by assumption))
  · (go_enter Try.func26, Try.ntmps26; go_wp2_with (first | (go_at_call 44; refine (C1 _).mono ?_; rintro e w1 ⟨rfl, rfl⟩) | (go_at_call 57; first | (with_reducible refine (C2 _).mono ?_; rintro e w1 ⟨rfl, rfl⟩) | (with_reducible refine (C3 _).mono ?_; rintro e w1 ⟨rfl, rfl⟩)) | (go_at_call 58; refine (C4 _).mono ?_; rintro e w1 ⟨rfl, o1⟩; have q4 : w1.cell? ⟨w.heap.size, 4, none⟩ = some (.int .i64 x.many) := Bk.cell ((new_bk _ _ _).old o1) 4)); go_ret; refine ⟨ret_bool (by simp [*]; try omega), ?_⟩; first | exact old_alloc _ _ | exact (old_alloc _ _).tr (by assumption))

set_option maxHeartbeats 2000000 in
theorem rmay_any (x : Itm) (w : World) :
    Calls Try.prog 36 #[iv x] w fun e w' => e = .returned (.bool (mayF x)) ∧ Old w w' := by
  unfold mayF
  have C1 := fun w => rname_any x.name 59 59 rfl w
  have C2 := fun w => rname_any x.low 40 40 rfl w
  have C3 := fun w => rname_any x.high 40 40 rfl w
  generalize nameB 59 x.name = b1 at *
  generalize nameB 40 x.low = b2 at *
  generalize nameB 40 x.high = b3 at *
  by_cases g1 : 0 ≤ x.lev
  · by_cases g2 : x.lev < 3
    · cases b1
      · (go_enter Try.func36, Try.ntmps36; go_wp2_with (first | (go_at_call 48; first | (with_reducible refine (C1 _).mono ?_; rintro e w1 ⟨rfl, rfl⟩) | (with_reducible refine (C2 _).mono ?_; rintro e w1 ⟨rfl, rfl⟩) | (with_reducible refine (C3 _).mono ?_; rintro e w1 ⟨rfl, rfl⟩))); go_ret; refine ⟨ret_bool (by simp [*]; try omega), ?_⟩; first | exact old_alloc _ _ | exact (old_alloc _ _).tr (by assumption))
      · cases b2
        · (go_enter Try.func36, Try.ntmps36; go_wp2_with (first | (go_at_call 48; first | (with_reducible refine (C1 _).mono ?_; rintro e w1 ⟨rfl, rfl⟩) | (with_reducible refine (C2 _).mono ?_; rintro e w1 ⟨rfl, rfl⟩) | (with_reducible refine (C3 _).mono ?_; rintro e w1 ⟨rfl, rfl⟩))); go_ret; refine ⟨ret_bool (by simp [*]; try omega), ?_⟩; first | exact old_alloc _ _ | exact (old_alloc _ _).tr (by assumption))
        · cases b3
          · (go_enter Try.func36, Try.ntmps36; go_wp2_with (first | (go_at_call 48; first | (with_reducible refine (C1 _).mono ?_; rintro e w1 ⟨rfl, rfl⟩) | (with_reducible refine (C2 _).mono ?_; rintro e w1 ⟨rfl, rfl⟩) | (with_reducible refine (C3 _).mono ?_; rintro e w1 ⟨rfl, rfl⟩))); go_ret; refine ⟨ret_bool (by simp [*]; try omega), ?_⟩; first | exact old_alloc _ _ | exact (old_alloc _ _).tr (by assumption))
          · (go_enter Try.func36, Try.ntmps36; go_wp2_with (first | (go_at_call 48; first | (with_reducible refine (C1 _).mono ?_; rintro e w1 ⟨rfl, rfl⟩) | (with_reducible refine (C2 _).mono ?_; rintro e w1 ⟨rfl, rfl⟩) | (with_reducible refine (C3 _).mono ?_; rintro e w1 ⟨rfl, rfl⟩))); all_goals (go_ret; refine ⟨ret_bool ?_, old_alloc _ _⟩; unfold leT; clear C1 C2 C3; simp_all; try omega))
    · (go_enter Try.func36, Try.ntmps36; go_wp2_with (first | (go_at_call 48; first | (with_reducible refine (C1 _).mono ?_; rintro e w1 ⟨rfl, rfl⟩) | (with_reducible refine (C2 _).mono ?_; rintro e w1 ⟨rfl, rfl⟩) | (with_reducible refine (C3 _).mono ?_; rintro e w1 ⟨rfl, rfl⟩))); go_ret; refine ⟨ret_bool (by simp [*]; try omega), ?_⟩; first | exact old_alloc _ _ | exact (old_alloc _ _).tr (by assumption))
  · (go_enter Try.func36, Try.ntmps36; go_wp2_with (first | (go_at_call 48; first | (with_reducible refine (C1 _).mono ?_; rintro e w1 ⟨rfl, rfl⟩) | (with_reducible refine (C2 _).mono ?_; rintro e w1 ⟨rfl, rfl⟩) | (with_reducible refine (C3 _).mono ?_; rintro e w1 ⟨rfl, rfl⟩))); go_ret; refine ⟨ret_bool (by simp [*]; try omega), ?_⟩; first | exact old_alloc _ _ | exact (old_alloc _ _).tr (by assumption))
end Go.Proofs.Yteglddggjkibcaa
