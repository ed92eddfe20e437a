/-
  The reader's part f80 at any number; all f44.
  The reader's all f44.
  Where the reader gives up the error is one of two.
-/
import Derived.Test.YtkmpcheamdadcaaDi
import Derived.Test.YtkmpcheamdadcaaDj
import Derived.Test.YtkmpcheamdadcaaDk
import Derived.Test.YtkmpcheamdadcaaDl
import Derived.Test.YtkmpcheamdadcaaDp
namespace Go.Proofs.Ytkmpcheamdadcaa
open Go.RowKit
set_option linter.unusedVariables false
set_option linter.unusedSimpArgs false
theorem pAny_len {n : Int} {l l' : List Int} (h : pAny l = .ok (n, l')) : l'.length ≤ l.length := (pVar_bd2 h).2.2.2
theorem pTake_len {n : Nat} {l t l' : List Int} (h : pTake n l = .ok (t, l')) : l'.length ≤ l.length := by
  obtain ⟨_, _, rfl⟩ := pTake_yes h
  simp
theorem pKey_len {k : Ky} {l l' : List Int} (h : pKey l = .ok (k, l')) : l'.length ≤ l.length := by
  unfold pKey at h
  cases hv : pVar 1032 l with
  | error c => rw [hv] at h; cases h
  | ok x =>
    obtain ⟨n, l1⟩ := x
    rw [hv] at h
    dsimp only at h
    cases ht : pTake n.toNat l1 with
    | error c => rw [ht] at h; cases h
    | ok y =>
      obtain ⟨t, l2⟩ := y
      rw [ht] at h
      dsimp only at h
      cases hk : pKyB t with
      | error c => rw [hk] at h; cases h
      | ok k' =>
        rw [hk] at h
        cases h
        exact Nat.le_trans (pTake_len ht) (pVar_bd2 hv).2.2.2
theorem pFile_len {f : Fi} {l l' : List Int} (h : pFile l = .ok (f, l')) : l'.length ≤ l.length := by
  unfold pFile at h
  cases h1 : pAny l with
  | error c => rw [h1] at h; cases h
  | ok x =>
    obtain ⟨_, l1⟩ := x
    rw [h1] at h
    dsimp only at h
    cases h2 : pAny l1 with
    | error c => rw [h2] at h; cases h
    | ok x =>
      obtain ⟨_, l2⟩ := x
      rw [h2] at h
      dsimp only at h
      cases h3 : pAny l2 with
      | error c => rw [h3] at h; cases h
      | ok x =>
        obtain ⟨_, l3⟩ := x
        rw [h3] at h
        dsimp only at h
        cases h4 : pAny l3 with
        | error c => rw [h4] at h; cases h
        | ok x =>
          obtain ⟨_, l4⟩ := x
          rw [h4] at h
          dsimp only at h
          cases h5 : pKey l4 with
          | error c => rw [h5] at h; cases h
          | ok x =>
            obtain ⟨_, l5⟩ := x
            rw [h5] at h
            dsimp only at h
            cases h6 : pKey l5 with
            | error c => rw [h6] at h; cases h
            | ok x =>
              obtain ⟨_, l6⟩ := x
              rw [h6] at h
              cases h
              exact Nat.le_trans (pKey_len h6) (Nat.le_trans (pKey_len h5) (Nat.le_trans (pAny_len h4) (Nat.le_trans (pAny_len h3) (Nat.le_trans (pAny_len h2) (pAny_len h1)))))
theorem pName_len {t : List Int} {l l' : List Int} (h : pName l = .ok (t, l')) : l'.length ≤ l.length := by
  unfold pName at h
  cases hv : pVar 64 l with
  | error c => rw [hv] at h; cases h
  | ok x =>
    obtain ⟨n, l1⟩ := x
    rw [hv] at h
    dsimp only at h
    by_cases hn : n ≤ 0
    · rw [if_pos hn] at h; cases h
    · rw [if_neg hn] at h
      exact Nat.le_trans (pTake_len h) (pVar_bd2 hv).2.2.2
/-- A part is read, or the reader gives up; no bytes come to what is left. -/
theorem part_any {B M : Nat} {w : World} {rb : Nat} {l : List Int} {P : En} {e : Ed} (h : Rs B M w rb l P e) (n : Int) :
    (∀ e' l', pPart n e l = .ok (e', l') → l'.length ≤ l.length ∧ Calls Try.prog 80 #[ptr rb, .int .i64 n] w fun en w' => en = .returned (.tuple #[]) ∧ (∃ P', Rs B M w' rb l' P' e') ∧ Upd (Fr M rb) w w') ∧ (∀ c, pPart n e l = .error c → Calls Try.prog 80 #[ptr rb, .int .i64 n] w fun en w' => en = pnk c ∧ Upd (Fr M rb) w w') := by
  have hB := h.rd.lt.2
  have up : ∀ {en0 : Ending} {e' : Ed} {l' : List Int}, (Calls Try.prog 80 #[ptr rb, .int .i64 n] w fun en w' => en = .returned (.tuple #[]) ∧ Rs B M w' rb l' P e' ∧ Upd (Is rb) w w') → Calls Try.prog 80 #[ptr rb, .int .i64 n] w fun en w' => en = .returned (.tuple #[]) ∧ (∃ P', Rs B M w' rb l' P' e') ∧ Upd (Fr M rb) w w' := fun hc => hc.mono (by rintro en w' ⟨h1, h2, h3⟩; exact ⟨h1, ⟨_, h2⟩, upd_is hB h3⟩)
  have dn : ∀ {c : Int}, (Calls Try.prog 80 #[ptr rb, .int .i64 n] w fun en w' => en = pnk c ∧ Upd (Is rb) w w') → Calls Try.prog 80 #[ptr rb, .int .i64 n] w fun en w' => en = pnk c ∧ Upd (Fr M rb) w w' := fun hc => hc.mono (by rintro en w' ⟨h1, h3⟩; exact ⟨h1, upd_is hB h3⟩)
  have up7 : ∀ {e' : Ed} {l' : List Int}, (Calls Try.prog 80 #[ptr rb, .int .i64 n] w fun en w' => en = .returned (.tuple #[]) ∧ ∃ P', Rs B M w' rb l' P' e' ∧ Upd (Fr M rb) w w') → Calls Try.prog 80 #[ptr rb, .int .i64 n] w fun en w' => en = .returned (.tuple #[]) ∧ (∃ P', Rs B M w' rb l' P' e') ∧ Upd (Fr M rb) w w' := fun hc => hc.mono (by rintro en w' ⟨h1, P', h2, h3⟩; exact ⟨h1, ⟨_, h2⟩, h3⟩)
  by_cases h2 : n = 2
  · subst h2
    unfold pPart
    rw [if_pos rfl]
    cases hv : pVar 1 l with
    | error c => exact ⟨fun _ _ hp => (by cases hp), fun _ hp => (by cases hp; exact dn (part2_e1 h hv))⟩
    | ok x =>
      obtain ⟨k, l1⟩ := x
      dsimp only
      cases hq : pName l1 with
      | error c => exact ⟨fun _ _ hp => (by cases hp), fun _ hp => (by cases hp; exact dn (part2_e2 h hv hq))⟩
      | ok y =>
        obtain ⟨t, l2⟩ := y
        exact ⟨fun _ _ hp => (by cases hp; exact ⟨Nat.le_trans (pName_len hq) (pVar_bd2 hv).2.2.2, up (en0 := .outgrown) (part2_ok h hv hq)⟩), fun _ hp => (by cases hp)⟩
  by_cases h3 : n = 3
  · subst h3
    unfold pPart
    rw [if_neg (by decide), if_pos rfl]
    cases hm : e.ma with
    | true => exact ⟨fun _ _ hp => (by cases hp), fun _ hp => (by cases hp; exact dn (part3_err h hm))⟩
    | false => exact ⟨fun _ _ hp => (by cases hp; exact ⟨Nat.le_refl _, up (en0 := .outgrown) (by have := part3_ok h hm; simpa only [hm] using this)⟩), fun _ hp => (by cases hp)⟩
  by_cases h4 : n = 4
  · subst h4
    unfold pPart
    rw [if_neg (by decide), if_neg (by decide), if_pos rfl]
    cases hv : pAny l with
    | error c => exact ⟨fun _ _ hp => (by cases hp), fun _ hp => (by cases hp; exact dn (part4_err h hv))⟩
    | ok x =>
      obtain ⟨k, l1⟩ := x
      exact ⟨fun _ _ hp => (by cases hp; exact ⟨pAny_len hv, up (en0 := .outgrown) (part4_ok h hv)⟩), fun _ hp => (by cases hp)⟩
  by_cases h5 : n = 5
  · subst h5
    unfold pPart
    rw [if_neg (by decide), if_neg (by decide), if_neg (by decide), if_pos rfl]
    cases hv : pAny l with
    | error c => exact ⟨fun _ _ hp => (by cases hp), fun _ hp => (by cases hp; exact dn (part5_err h hv))⟩
    | ok x =>
      obtain ⟨k, l1⟩ := x
      exact ⟨fun _ _ hp => (by cases hp; exact ⟨pAny_len hv, up (en0 := .outgrown) (part5_ok h hv)⟩), fun _ hp => (by cases hp)⟩
  by_cases h6 : n = 6
  · subst h6
    unfold pPart
    rw [if_neg (by decide), if_neg (by decide), if_neg (by decide), if_neg (by decide), if_pos rfl]
    cases hv : pAny l with
    | error c => exact ⟨fun _ _ hp => (by cases hp), fun _ hp => (by cases hp; exact dn (part6_err h hv))⟩
    | ok x =>
      obtain ⟨k, l1⟩ := x
      exact ⟨fun _ _ hp => (by cases hp; exact ⟨pAny_len hv, up (en0 := .outgrown) (part6_ok h hv)⟩), fun _ hp => (by cases hp)⟩
  by_cases h7 : n = 7
  · subst h7
    unfold pPart
    rw [if_neg (by decide), if_neg (by decide), if_neg (by decide), if_neg (by decide), if_neg (by decide), if_pos rfl]
    cases hm : roomB e with
    | false => rw [if_pos rfl]; exact ⟨fun _ _ hp => (by cases hp), fun _ hp => (by cases hp; exact part7_room h hm)⟩
    | true =>
      rw [if_neg (by decide)]
      cases hv : pLvl l with
      | error c => exact ⟨fun _ _ hp => (by cases hp), fun _ hp => (by cases hp; exact part7_e1 h hm hv)⟩
      | ok x =>
        obtain ⟨k, l1⟩ := x
        dsimp only
        cases hq : pAny l1 with
        | error c => exact ⟨fun _ _ hp => (by cases hp), fun _ hp => (by cases hp; exact part7_e2 h hm hv hq)⟩
        | ok y =>
          obtain ⟨t, l2⟩ := y
          exact ⟨fun _ _ hp => (by cases hp; exact ⟨Nat.le_trans (pAny_len hq) (pVar_bd2 hv).2.2.2, up7 (part7_ok h hm hv hq)⟩), fun _ hp => (by cases hp)⟩
  by_cases h8 : n = 8
  · subst h8
    unfold pPart
    rw [if_neg (by decide), if_neg (by decide), if_neg (by decide), if_neg (by decide), if_neg (by decide), if_neg (by decide), if_pos rfl]
    cases hm : roomB e with
    | false => rw [if_pos rfl]; exact ⟨fun _ _ hp => (by cases hp), fun _ hp => (by cases hp; exact part8_room h hm)⟩
    | true =>
      rw [if_neg (by decide)]
      cases hv : pLvl l with
      | error c => exact ⟨fun _ _ hp => (by cases hp), fun _ hp => (by cases hp; exact part8_e1 h hm hv)⟩
      | ok x =>
        obtain ⟨k, l1⟩ := x
        dsimp only
        cases hq : pFile l1 with
        | error c => exact ⟨fun _ _ hp => (by cases hp), fun _ hp => (by cases hp; exact part8_e2 h hm hv hq)⟩
        | ok y =>
          obtain ⟨t, l2⟩ := y
          exact ⟨fun _ _ hp => (by cases hp; exact ⟨Nat.le_trans (pFile_len hq) (pVar_bd2 hv).2.2.2, up7 (part8_ok h hm hv hq)⟩), fun _ hp => (by cases hp)⟩
  unfold pPart
  rw [if_neg h2, if_neg h3, if_neg h4, if_neg h5, if_neg h6, if_neg h7, if_neg h8]
  exact ⟨fun _ _ hp => (by cases hp), fun _ hp => (by cases hp; exact dn (partx_err h (by omega)))⟩
end Go.Proofs.Ytkmpcheamdadcaa
namespace Go.Proofs.Ytkmpcheamdadcaa
open Go.RowKit
set_option linter.unusedVariables false
set_option linter.unusedSimpArgs false
def lenC : Option Value → Nat
  | some (.slice _ n _) => n
  | _ => 0
theorem Rs.len {B M : Nat} {w : World} {rb : Nat} {l : List Int} {P : En} {e : Ed} (h : Rs B M w rb l P e) : lenC (w.cell? ⟨rb, 0, none⟩) = l.length := by
  obtain ⟨a, cap, hB, _⟩ := h.rd
  rw [hB.cell1 0 _ rfl]; rfl
theorem Rs.head {B M : Nat} {w : World} {rb : Nat} {l : List Int} {P : En} {e : Ed} (h : Rs B M w rb l P e) : ∃ a cap, w.cell? ⟨rb, 0, none⟩ = some (.slice a l.length cap) := by
  obtain ⟨a, cap, hB, _⟩ := h.rd
  exact ⟨a, cap, hB.cell1 0 _ rfl⟩
set_option maxRecDepth 100000 in
set_option maxHeartbeats 1000000 in
theorem rep_any (n : Int) (w : World) : Calls Try.prog 79 #[.int .i64 n] w fun en w' => en = .returned (.bool (decide (n = 7) || decide (n = 8))) ∧ w' = w := by
  by_cases h7 : n = 7
  · subst h7
    go_enter Try.func79, Try.ntmps79
    go_wp2
    go_ret
    exact ⟨rfl, rfl⟩
  · by_cases h8 : n = 8
    · subst h8
      go_enter Try.func79, Try.ntmps79
      go_wp2
      go_ret
      exact ⟨rfl, rfl⟩
    · have q7 : (n == 7) = false := by simpa using h7
      have q8 : (n == 8) = false := by simpa using h8
      have e : (decide (n = 7) || decide (n = 8)) = false := by simp [h7, h8]
      rw [e]
      clear h7 h8 e
      go_enter Try.func79, Try.ntmps79
      go_wp2
      go_ret
      exact ⟨rfl, rfl⟩
/-- What all leaves. -/
def AllPost (B M : Nat) (w : World) (rb : Nat) (R : Except Int Ed) (en : Ending) (w' : World) : Prop :=
  ((∃ e P, R = .ok e ∧ en = .returned (.tuple #[]) ∧ Rs B M w' rb [] P e) ∨ ∃ c, R = .error c ∧ en = pnk c) ∧ Upd (Fr M rb) w w' 
theorem all_err {B M : Nat} {w w' : World} {rb : Nat} {R : Except Int Ed} {c : Int} (h : Hid (R = .error c)) (u : Upd (Fr M rb) w w') : AllPost B M w rb R (pnk c) w' := ⟨.inr ⟨c, h.out, rfl⟩, u⟩
theorem pEd_nil : pEd [] = .error 4 := rfl
theorem pEd_ne {n : Int} {l : List Int} (h : n ≠ 1) : pEd (n :: l) = .error 3 := by
  unfold pEd
  simp only [h, if_false]
theorem pEd_bad {l : List Int} {c : Int} (h : pVar 4294967295 l = .error c) : pEd (1 :: l) = .error c := by
  unfold pEd
  simp only [if_true, h]
theorem pParts_nil (f : Nat) (last : Int) (e : Ed) : pParts (f + 1) last e [] = .ok e := rfl
theorem pParts_may {f : Nat} {last n : Int} {e : Ed} {l : List Int} (h : mayB last n = false) : pParts (f + 1) last e (n :: l) = .error 3 := by
  show (if mayB last n = false then (.error 3 : Except Int Ed) else _) = _
  rw [if_pos h]
theorem pParts_bad {f : Nat} {last n c : Int} {e : Ed} {l : List Int} (h : mayB last n = true) (hp : pPart n e l = .error c) : pParts (f + 1) last e (n :: l) = .error c := by
  show (if mayB last n = false then _ else match pPart n e l with | .error c => (.error c : Except Int Ed) | .ok (e', l') => pParts f n e' l') = _
  rw [h, hp]; rfl
theorem pParts_on {f : Nat} {last n : Int} {e e' : Ed} {l l' : List Int} (h : mayB last n = true) (hp : pPart n e l = .ok (e', l')) : pParts (f + 1) last e (n :: l) = pParts f n e' l' := by
  show (if mayB last n = false then _ else match pPart n e l with | .error c => (.error c : Except Int Ed) | .ok (e', l') => pParts f n e' l') = _
  rw [h, hp]; rfl
theorem part_len {n : Int} {e e' : Ed} {l l' : List Int} (h : pPart n e l = .ok (e', l')) : l'.length ≤ l.length := by
  unfold pPart at h
  split at h
  · cases hv : pVar 1 l with
    | error c => rw [hv] at h; cases h
    | ok x =>
      obtain ⟨k, l1⟩ := x
      rw [hv] at h
      dsimp only at h
      cases hq : pName l1 with
      | error c => rw [hq] at h; cases h
      | ok y =>
        obtain ⟨t, l2⟩ := y
        rw [hq] at h
        cases h
        exact Nat.le_trans (pName_len hq) (pVar_bd2 hv).2.2.2
  split at h
  · split at h
    · cases h
    · cases h; exact Nat.le_refl _
  iterate 3
    split at h
    · cases hv : pAny l with
      | error c => rw [hv] at h; cases h
      | ok x =>
        obtain ⟨k, l1⟩ := x
        rw [hv] at h
        cases h
        exact pAny_len hv
  split at h
  · split at h
    · cases h
    · cases hv : pLvl l with
      | error c => rw [hv] at h; cases h
      | ok x =>
        obtain ⟨k, l1⟩ := x
        rw [hv] at h
        dsimp only at h
        cases hq : pAny l1 with
        | error c => rw [hq] at h; cases h
        | ok y =>
          obtain ⟨t, l2⟩ := y
          rw [hq] at h
          cases h
          exact Nat.le_trans (pAny_len hq) (pVar_bd2 hv).2.2.2
  split at h
  · split at h
    · cases h
    · cases hv : pLvl l with
      | error c => rw [hv] at h; cases h
      | ok x =>
        obtain ⟨k, l1⟩ := x
        rw [hv] at h
        dsimp only at h
        cases hq : pFile l1 with
        | error c => rw [hq] at h; cases h
        | ok y =>
          obtain ⟨t, l2⟩ := y
          rw [hq] at h
          cases h
          exact Nat.le_trans (pFile_len hq) (pVar_bd2 hv).2.2.2
  cases h
set_option maxRecDepth 100000 in
set_option maxHeartbeats 4000000 in
theorem all_any {B M : Nat} {w : World} {rb : Nat} {l : List Int} {P : En} (h : Rs B M w rb l P ed0) :
    Calls Try.prog 44 #[ptr rb] w (AllPost B M w rb (pEd l)) := by
  have hB := h.rd.lt.2
  obtain ⟨R, hR⟩ : ∃ R, pEd l = R := ⟨_, rfl⟩
  have HR : Hid (pEd l = R) := hR
  rw [hR]
  clear hR
  cases l with
  | nil =>
    have hr : Hid (R = .error 4) := by show _ = _; rw [← HR.out]; rfl
    go_enter Try.func44, Try.ntmps44
    go_wp2_with (go_at_call 76; refine (number_err h.rd).mono ?_; rintro en w2 ⟨rfl, rfl⟩)
    exact ⟨rfl, all_err hr (Upd.refl _ _)⟩
  | cons n l =>
    by_cases hn : n = 1
    case neg =>
      have hr : Hid (R = .error 3) := by show _ = _; rw [← HR.out]; exact pEd_ne hn
      have q1 : (n == 1) = false := by simpa using hn
      clear hn
      go_enter Try.func44, Try.ntmps44
      go_wp2_with (first
        | (go_at_call 76; refine (number_ok h.rd).mono ?_; rintro en w2 ⟨rfl, hr2, hu2⟩)
        | (go_at_call 77; refine (must_no _).mono ?_; rintro en w3 ⟨rfl, rfl⟩))
      exact ⟨rfl, all_err hr (upd_is hB hu2)⟩
    subst hn
    cases hv : pVar 4294967295 l with
    | error c =>
      have hr : Hid (R = .error c) := by show _ = _; rw [← HR.out]; exact pEd_bad hv
      go_enter Try.func44, Try.ntmps44
      go_wp2_with (first
        | (go_at_call 78; refine (varint_err hr2 (by decide) (by decide) hv).mono ?_; rintro en w4 ⟨rfl, rfl⟩)
        | (go_at_call 76; refine (number_ok h.rd).mono ?_; rintro en w2 ⟨rfl, hr2, hu2⟩)
        | (go_at_call 77; refine (must_yes _).mono ?_; rintro en w3 ⟨rfl, rfl⟩))
      exact ⟨rfl, all_err hr (upd_is hB hu2)⟩
    | ok x =>
      obtain ⟨v, l1⟩ := x
      have hb := pVar_bd2 hv
      have v0 := hb.1
      have v1 := hb.2.1
      have hl1 := hb.2.2.2
      clear hb
      have HR1 : Hid (pParts (l1.length + 1) 1 { ed0 with fam := v } l1 = R) := by show _ = _; rw [← HR.out]; exact (pEd_one hv).symm
      clear HR
      have hlt0 := h.rd.lt.1
      go_enter Try.func44, Try.ntmps44
      go_wp2_with (first
        | (go_at_call 78; refine (varint_ok hr2 (by decide) (by decide) hv).mono ?_; rintro en w4 ⟨rfl, hr4, hu4⟩
           have R4 := (h.call hr2 hu2).call hr4 hu4
           obtain ⟨c4, z4⟩ := R4.cell 0 _ rfl
           have lt4 := R4.rd.lt.1)
        | (go_at_call 76; refine (number_ok h.rd).mono ?_; rintro en w2 ⟨rfl, hr2, hu2⟩)
        | (go_at_call 77; refine (must_yes _).mono ?_; rintro en w3 ⟨rfl, rfl⟩))
      have R5 := R4.set (e' := { ed0 with fam := v }) 0 (.int .u32 v) rfl rfl rfl
      have HU5 : Hid (Upd (Fr M rb) w (w4.setCell ⟨rb, 1, none⟩ (.int .u32 v))) := upd_is hB (upd_box (hu2.trans hu4) 1 _)
      clear R4 hr2 hr4 hu2 hu4 c4 z4 lt4 hv h hlt0
      go_loopw [2] (fun i wr => ∃ (last : Int) (f : Nat) (l' : List Int) (P' : En) (e' : Ed), i = .int .i64 last ∧ Rs B M wr rb l' P' e' ∧ Hid (pParts f last e' l' = R) ∧ Hid (l'.length < f) ∧ Hid (Upd (Fr M rb) w wr)) (fun _ wr => lenC (wr.cell? ⟨rb, 0, none⟩))
      case atStart => exact ⟨1, _, l1, P, _, rfl, R5, HR1, Nat.lt_succ_self _, HU5⟩
      case round =>
        clear R5 HU5 HR1
        obtain ⟨last, f, l', P', e', rfl, RR, HR, HF, HU⟩ := hrel
        have HM : Hid (lenC (wr.cell? ⟨rb, 0, none⟩) = l'.length) := RR.len
        obtain ⟨f, rfl⟩ : ∃ g, f = g + 1 := ⟨f - 1, by have := HF.out; omega⟩
        obtain ⟨a0, k0, c0⟩ := RR.head
        have lt0 := RR.rd.lt.1
        cases l' with
        | nil =>
          have hres : Hid (R = .ok e') := by show _ = _; rw [← HR.out]; rfl
          have c0' : wr.cell? ⟨rb, 0, none⟩ = some (.slice a0 0 k0) := c0
          clear c0 HR
          go_wp2
          go_end0
          exact ⟨.inl ⟨e', P', hres.out, rfl, RR⟩, HU.out⟩
        | cons n l2 =>
          have c0' : wr.cell? ⟨rb, 0, none⟩ = some (.slice a0 (l2.length + 1) k0) := c0
          have hpos : (0 : Int) < ((l2.length + 1 : Nat) : Int) := by omega
          clear c0
          have HB : Hid (B ≤ rb) := hB
          have hrep : ∀ W, Calls Try.prog 79 #[.int .i64 n] W fun en w' => en = .returned (.bool (decide (n = 7) || decide (n = 8))) ∧ w' = W := fun W => rep_any n W
          have hnr : ∀ {W : World}, Rs B M W rb (n :: l2) P' e' → Calls Try.prog 76 #[ptr rb] W fun en w' => en = .returned (.int .i64 n) ∧ Rs B M w' rb l2 P' e' ∧ Upd (Is rb) W w' := fun h => (number_ok h.rd).mono (by rintro en w' ⟨h1, h2, h3⟩; exact ⟨h1, h.call h2 h3, h3⟩)
          obtain ⟨q, hq⟩ : ∃ q, (decide (n = 7) || decide (n = 8)) = q := ⟨_, rfl⟩
          rw [hq] at hrep
          have HQ : Hid ((decide (n = 7) || decide (n = 8)) = q) := hq
          clear hq hB
          -- what may stand here
          have hcase : (last < n ∧ Hid (mayB last n = true)) ∨ (n = last ∧ q = true ∧ Hid (mayB last n = true)) ∨ (n = last ∧ q = false ∧ Hid (mayB last n = false)) ∨ (¬ last < n ∧ (n == last) = false ∧ Hid (mayB last n = false)) := by
            rcases Int.lt_or_le last n with h1 | h1
            · exact .inl ⟨h1, may_lt h1⟩
            · by_cases h2 : n = last
              · subst h2
                have e : mayB n n = q := by unfold mayB; rw [HQ.out]; simp
                cases q
                · exact .inr (.inr (.inl ⟨rfl, rfl, e⟩))
                · exact .inr (.inl ⟨rfl, rfl, e⟩)
              · refine .inr (.inr (.inr ⟨by omega, by simpa using h2, ?_⟩))
                show _ = _
                unfold mayB; simp [h2]; omega
          have hgo : Hid (mayB last n = true) → (∃ c, Hid (R = .error c) ∧ Hid (∀ W, Rs B M W rb l2 P' e' → Calls Try.prog 80 #[ptr rb, .int .i64 n] W fun en w' => en = pnk c ∧ Upd (Fr M rb) W w')) ∨ (∃ e2 l3, Hid (pParts f n e2 l3 = R) ∧ Hid (l3.length < f) ∧ Hid (l3.length ≤ l2.length) ∧ Hid (∀ W, Rs B M W rb l2 P' e' → Calls Try.prog 80 #[ptr rb, .int .i64 n] W fun en w' => en = .returned (.tuple #[]) ∧ (∃ P', Rs B M w' rb l3 P' e2) ∧ Upd (Fr M rb) W w')) := fun hm => by
            cases hp : pPart n e' l2 with
            | error c => exact .inl ⟨c, by show _ = _; rw [← HR.out]; exact pParts_bad hm.out hp, fun W hW => (part_any hW n).2 c hp⟩
            | ok x =>
              obtain ⟨e2, l3⟩ := x
              have hl3 : l3.length ≤ l2.length := by
                exact part_len hp
              exact .inr ⟨e2, l3, by show _ = _; rw [← HR.out]; exact (pParts_on hm.out hp).symm, by show _ < _; have := HF.out; simp only [List.length_cons] at this; omega, hl3, fun W hW => ((part_any hW n).1 e2 l3 hp).2⟩
          have hno : Hid (mayB last n = false) → Hid (R = .error 3) := fun hm => by show _ = _; rw [← HR.out]; exact pParts_may hm.out
          clear HR HQ
          rcases hcase with ⟨hlt, hm⟩ | ⟨rfl, rfl, hm⟩ | ⟨rfl, rfl, hm⟩ | ⟨hlt, hne, hm⟩
          · have HG := hgo hm
            clear hno hgo hm
            rcases HG with ⟨c, hres, hpart⟩ | ⟨e2, l3, HR2, HF2, HL2, hpart⟩
            · go_wp2_with (first
                | (go_at_call 80; refine (hpart.out _ R2).mono ?_; rintro en w7 ⟨rfl, hu7⟩)
                | (go_at_call 76; refine (hnr RR).mono ?_; rintro en w2 ⟨rfl, R2, hu2⟩)
                | (go_at_call 79; refine (hrep _).mono ?_; rintro en w6 ⟨rfl, rfl⟩)
                | (go_at_call 77; refine (must_yes _).mono ?_; rintro en w3 ⟨rfl, rfl⟩))
              exact ⟨rfl, all_err hres (HU.out.trans ((upd_is HB.out hu2).trans hu7))⟩
            · go_wp2_with (first
                | (go_at_call 80; refine (hpart.out _ R2).mono ?_; rintro en w7 ⟨rfl, ⟨P7, R7⟩, hu7⟩)
                | (go_at_call 76; refine (hnr RR).mono ?_; rintro en w2 ⟨rfl, R2, hu2⟩)
                | (go_at_call 79; refine (hrep _).mono ?_; rintro en w6 ⟨rfl, rfl⟩)
                | (go_at_call 77; refine (must_yes _).mono ?_; rintro en w3 ⟨rfl, rfl⟩))
              go_roundw
              case rel => exact ⟨n, f, l3, P7, e2, rfl, R7, HR2, HF2, HU.out.trans ((upd_is HB.out hu2).trans hu7)⟩
              case measure =>
                have q1 := R7.len
                have q2 := HM.out
                have q3 := HL2.out
                simp only [List.length_cons] at q2
                omega
          · have HG := hgo hm
            clear hno hgo hm
            rcases HG with ⟨c, hres, hpart⟩ | ⟨e2, l3, HR2, HF2, HL2, hpart⟩
            · go_wp2_with (first
                | (go_at_call 80; refine (hpart.out _ R2).mono ?_; rintro en w7 ⟨rfl, hu7⟩)
                | (go_at_call 76; refine (hnr RR).mono ?_; rintro en w2 ⟨rfl, R2, hu2⟩)
                | (go_at_call 79; refine (hrep _).mono ?_; rintro en w6 ⟨rfl, rfl⟩)
                | (go_at_call 77; refine (must_yes _).mono ?_; rintro en w3 ⟨rfl, rfl⟩))
              exact ⟨rfl, all_err hres (HU.out.trans ((upd_is HB.out hu2).trans hu7))⟩
            · go_wp2_with (first
                | (go_at_call 80; refine (hpart.out _ R2).mono ?_; rintro en w7 ⟨rfl, ⟨P7, R7⟩, hu7⟩)
                | (go_at_call 76; refine (hnr RR).mono ?_; rintro en w2 ⟨rfl, R2, hu2⟩)
                | (go_at_call 79; refine (hrep _).mono ?_; rintro en w6 ⟨rfl, rfl⟩)
                | (go_at_call 77; refine (must_yes _).mono ?_; rintro en w3 ⟨rfl, rfl⟩))
              go_roundw
              case rel => exact ⟨n, f, l3, P7, e2, rfl, R7, HR2, HF2, HU.out.trans ((upd_is HB.out hu2).trans hu7)⟩
              case measure =>
                have q1 := R7.len
                have q2 := HM.out
                have q3 := HL2.out
                simp only [List.length_cons] at q2
                omega
          · have hres := hno hm
            clear hno hgo hm
            go_wp2_with (first
              | (go_at_call 76; refine (hnr RR).mono ?_; rintro en w2 ⟨rfl, R2, hu2⟩)
              | (go_at_call 79; refine (hrep _).mono ?_; rintro en w6 ⟨rfl, rfl⟩)
              | (go_at_call 77; refine (must_no _).mono ?_; rintro en w3 ⟨rfl, rfl⟩))
            exact ⟨rfl, all_err hres (HU.out.trans (upd_is HB.out hu2))⟩
          · have hd : decide (last < n) = false := decide_eq_false hlt
            have hres := hno hm
            clear hno hgo hm
            go_wp2_with (first
              | (go_at_call 76; refine (hnr RR).mono ?_; rintro en w2 ⟨rfl, R2, hu2⟩)
              | (go_at_call 79; refine (hrep _).mono ?_; rintro en w6 ⟨rfl, rfl⟩)
              | (go_at_call 77; refine (must_bn (by first | rfl | exact hd) _).mono ?_; rintro en w3 ⟨rfl, rfl⟩))
            exact ⟨rfl, all_err hres (HU.out.trans (upd_is HB.out hu2))⟩
end Go.Proofs.Ytkmpcheamdadcaa
namespace Go.Proofs.Ytkmpcheamdadcaa
open Go.RowKit
set_option linter.unusedVariables false
set_option linter.unusedSimpArgs false
def Er (c : Int) : Prop := c = 3 ∨ c = 4
theorem pVar_er {m : Int} {l : List Int} {c : Int} (h : pVar m l = .error c) : Er c := by
  rcases pVar_cases m l with ⟨v, s, hR, s1, s2, v0, v1, v2, hp'⟩ | ⟨v, s, hR, v2, v0, v1, hp'⟩ | ⟨c', hc', hR, hp'⟩
  · rw [h] at hp'; cases hp'
  · rw [h] at hp'; cases hp'; exact .inl rfl
  · rw [h] at hp'; cases hp'; exact hc'
theorem pTake_er {n : Nat} {l : List Int} {c : Int} (h : pTake n l = .error c) : Er c := .inr (pTake_no h).2
theorem pKyB_er {t : List Int} {c : Int} (h : pKyB t = .error c) : Er c := by
  unfold pKyB at h
  split at h
  · cases h; exact .inl rfl
  · split at h
    · cases h
    · cases h; exact .inl rfl
theorem pKey_er {l : List Int} {c : Int} (h : pKey l = .error c) : Er c := by
  unfold pKey at h
  cases hv : pVar 1032 l with
  | error c => rw [hv] at h; cases h; exact pVar_er hv
  | ok x =>
    obtain ⟨n, l1⟩ := x
    rw [hv] at h
    dsimp only at h
    cases ht : pTake n.toNat l1 with
    | error c => rw [ht] at h; cases h; exact pTake_er ht
    | ok y =>
      obtain ⟨t, l2⟩ := y
      rw [ht] at h
      dsimp only at h
      cases hk : pKyB t with
      | error c => rw [hk] at h; cases h; exact pKyB_er hk
      | ok k' => rw [hk] at h; cases h
theorem pName_er {l : List Int} {c : Int} (h : pName l = .error c) : Er c := by
  unfold pName at h
  cases hv : pVar 64 l with
  | error c => rw [hv] at h; cases h; exact pVar_er hv
  | ok x =>
    obtain ⟨n, l1⟩ := x
    rw [hv] at h
    dsimp only at h
    by_cases hn : n ≤ 0
    · rw [if_pos hn] at h; cases h; exact .inl rfl
    · rw [if_neg hn] at h
      exact pTake_er h
theorem pFile_er {l : List Int} {c : Int} (h : pFile l = .error c) : Er c := by
  unfold pFile at h
  cases h1 : pAny l with
  | error c => rw [h1] at h; cases h; exact pVar_er h1
  | ok x =>
    obtain ⟨_, l1⟩ := x
    rw [h1] at h
    dsimp only at h
    cases h2 : pAny l1 with
    | error c => rw [h2] at h; cases h; exact pVar_er h2
    | ok x =>
      obtain ⟨_, l2⟩ := x
      rw [h2] at h
      dsimp only at h
      cases h3 : pAny l2 with
      | error c => rw [h3] at h; cases h; exact pVar_er h3
      | ok x =>
        obtain ⟨_, l3⟩ := x
        rw [h3] at h
        dsimp only at h
        cases h4 : pAny l3 with
        | error c => rw [h4] at h; cases h; exact pVar_er h4
        | ok x =>
          obtain ⟨_, l4⟩ := x
          rw [h4] at h
          dsimp only at h
          cases h5 : pKey l4 with
          | error c => rw [h5] at h; cases h; exact pKey_er h5
          | ok x =>
            obtain ⟨_, l5⟩ := x
            rw [h5] at h
            dsimp only at h
            cases h6 : pKey l5 with
            | error c => rw [h6] at h; cases h; exact pKey_er h6
            | ok x =>
              obtain ⟨_, l6⟩ := x
              rw [h6] at h
              cases h
theorem pPart_er {n : Int} {e : Ed} {l : List Int} {c : Int} (h : pPart n e l = .error c) : Er c := by
  unfold pPart at h
  split at h
  · cases hv : pVar 1 l with
    | error c => rw [hv] at h; cases h; exact pVar_er hv
    | ok x =>
      obtain ⟨k, l1⟩ := x
      rw [hv] at h
      dsimp only at h
      cases hq : pName l1 with
      | error c => rw [hq] at h; cases h; exact pName_er hq
      | ok y => rw [hq] at h; cases h
  split at h
  · split at h
    · cases h; exact .inl rfl
    · cases h
  iterate 3
    split at h
    · cases hv : pAny l with
      | error c => rw [hv] at h; cases h; exact pVar_er hv
      | ok x => rw [hv] at h; cases h
  split at h
  · split at h
    · cases h; exact .inl rfl
    · cases hv : pLvl l with
      | error c => rw [hv] at h; cases h; exact pVar_er hv
      | ok x =>
        obtain ⟨k, l1⟩ := x
        rw [hv] at h
        dsimp only at h
        cases hq : pAny l1 with
        | error c => rw [hq] at h; cases h; exact pVar_er hq
        | ok y => rw [hq] at h; cases h
  split at h
  · split at h
    · cases h; exact .inl rfl
    · cases hv : pLvl l with
      | error c => rw [hv] at h; cases h; exact pVar_er hv
      | ok x =>
        obtain ⟨k, l1⟩ := x
        rw [hv] at h
        dsimp only at h
        cases hq : pFile l1 with
        | error c => rw [hq] at h; cases h; exact pFile_er hq
        | ok y => rw [hq] at h; cases h
  cases h; exact .inl rfl
theorem pParts_er : ∀ {f : Nat} {last : Int} {e : Ed} {l : List Int} {c : Int}, l.length < f → pParts f last e l = .error c → Er c
  | 0, _, _, _, _, hl, _ => by omega
  | f + 1, last, e, [], c, _, h => by cases h
  | f + 1, last, e, n :: l, c, hl, h => by
    have h' : (if mayB last n = false then (.error 3 : Except Int Ed) else match pPart n e l with
      | .error c => (.error c : Except Int Ed)
      | .ok (e', l') => pParts f n e' l') = .error c := h
    split at h'
    · cases h'; exact .inl rfl
    · cases hp : pPart n e l with
      | error c => rw [hp] at h'; cases h'; exact pPart_er hp
      | ok x =>
        obtain ⟨e', l'⟩ := x
        rw [hp] at h'
        have := part_len hp
        exact pParts_er (by simp only [List.length_cons] at hl; omega) h'
theorem pEd_er {l : List Int} {c : Int} (h : pEd l = .error c) : Er c := by
  cases l with
  | nil => cases h; exact .inr rfl
  | cons n l =>
    unfold pEd at h
    simp only at h
    split at h
    · cases hv : pVar 4294967295 l with
      | error c => rw [hv] at h; cases h; exact pVar_er hv
      | ok x =>
        obtain ⟨v, l1⟩ := x
        rw [hv] at h
        exact pParts_er (Nat.lt_succ_self _) h
    · cases h; exact .inl rfl
theorem Er.ne {c : Int} (h : Er c) : (c != 0) = true := by rcases h with rfl | rfl <;> rfl
end Go.Proofs.Ytkmpcheamdadcaa
