/-
  The reference's part f45 tells what the pure reader tells.
-/
import Derived.Test.YtkmpcheamdadcaaGe
import Derived.Test.YtkmpcheamdadcaaDr
namespace Go.Proofs.Ytkmpcheamdadcaa
open Go.RowKit
set_option linter.unusedVariables false
set_option linter.unusedSimpArgs false
theorem qNum_ok {most v : Int} {l l' : List Int} (h : pVar most l = .ok (v, l')) : qNum most (l, 0) = (v, (l', 0)) := by
  unfold pVar at h
  split at h
  · cases h
  · split at h
    · cases h
    · rename_i h1 h2
      cases h
      unfold qNum
      rw [if_neg (by simp)]
      simp only [h1, h2, if_false]
theorem qNum_err {most c : Int} {l : List Int} (h : pVar most l = .error c) : ∃ v l', qNum most (l, 0) = (v, (l', c)) := by
  unfold pVar at h
  unfold qNum
  rw [if_neg (by simp)]
  split at h
  · rename_i h1
    cases h
    refine ⟨(rvG l 0 0).1, l.drop (rvG l 0 0).2.1.toNat, ?_⟩
    dsimp only
    rw [if_pos h1]
  · split at h
    · rename_i h1 h2
      cases h
      refine ⟨(rvG l 0 0).1, l.drop (rvG l 0 0).2.1.toNat, ?_⟩
      dsimp only
      rw [if_neg h1, if_pos h2]
    · cases h
theorem qNum_stop {most c : Int} {l : List Int} (h : Er c) : qNum most (l, c) = (0, (l, c)) := by
  unfold qNum
  rw [if_pos (by rcases h with rfl | rfl <;> simp)]
theorem qText_ok {n : Int} {l t l' : List Int} (n0 : 0 ≤ n) (h : pTake n.toNat l = .ok (t, l')) : qText n (l, 0) = (t, (l', 0)) := by
  obtain ⟨h1, rfl, rfl⟩ := pTake_yes h
  unfold qText
  rw [if_neg (by simp), if_neg (by dsimp only; omega)]
theorem qText_err {n c : Int} {l : List Int} (n0 : 0 ≤ n) (h : pTake n.toNat l = .error c) : qText n (l, 0) = ([], (l, c)) := by
  obtain ⟨h1, rfl⟩ := pTake_no h
  unfold qText
  rw [if_neg (by simp), if_pos (by dsimp only; omega)]
theorem qText_stop {n c : Int} {l : List Int} (h : Er c) : qText n (l, c) = ([], (l, c)) := by
  unfold qText
  rw [if_pos (by rcases h with rfl | rfl <;> simp)]
theorem Er.nz {c : Int} (h : Er c) : c ≠ 0 := by rcases h with rfl | rfl <;> decide
theorem qKey_ok {k : Ky} {l l' : List Int} (h : pKey l = .ok (k, l')) : qKey (l, 0) = (k, (l', 0)) := by
  unfold pKey at h
  cases hv : pVar 1032 l with
  | error c => rw [hv] at h; cases h
  | ok x =>
    obtain ⟨n, l1⟩ := x
    rw [hv] at h
    dsimp only at h
    cases ht : pTake n.toNat l1 with
    | error c => rw [ht] at h; cases h
    | ok y =>
      obtain ⟨t, l2⟩ := y
      rw [ht] at h
      dsimp only at h
      cases hk : pKyB t with
      | error c => rw [hk] at h; cases h
      | ok k' =>
        rw [hk] at h
        cases h
        have q1 := qNum_ok hv
        have q2 := qText_ok (pVar_bd2 hv).1 ht
        unfold qKey
        rw [q1]
        dsimp only
        rw [q2]
        dsimp only
        rw [if_neg (by simp), hk]
theorem qKey_err {c : Int} {l : List Int} (h : pKey l = .error c) : ∃ k l', qKey (l, 0) = (k, (l', c)) := by
  unfold pKey at h
  cases hv : pVar 1032 l with
  | error c' =>
    rw [hv] at h
    cases h
    obtain ⟨v, l', q1⟩ := qNum_err hv
    have he := pVar_er hv
    refine ⟨ky0, l', ?_⟩
    unfold qKey
    rw [q1]
    dsimp only
    rw [qText_stop he]
    dsimp only
    rw [if_pos he.nz]
  | ok x =>
    obtain ⟨n, l1⟩ := x
    rw [hv] at h
    dsimp only at h
    have q1 := qNum_ok hv
    cases ht : pTake n.toNat l1 with
    | error c' =>
      rw [ht] at h
      cases h
      have he := pTake_er ht
      refine ⟨ky0, l1, ?_⟩
      unfold qKey
      rw [q1]
      dsimp only
      rw [qText_err (pVar_bd2 hv).1 ht]
      dsimp only
      rw [if_pos he.nz]
    | ok y =>
      obtain ⟨t, l2⟩ := y
      rw [ht] at h
      dsimp only at h
      have q2 := qText_ok (pVar_bd2 hv).1 ht
      cases hk : pKyB t with
      | ok k' => rw [hk] at h; cases h
      | error c' =>
        rw [hk] at h
        cases h
        have hc : c = 3 := by
          unfold pKyB at hk
          split at hk
          · cases hk; rfl
          · split at hk
            · cases hk
            · cases hk; rfl
        subst hc
        refine ⟨ky0, l2, ?_⟩
        unfold qKey
        rw [q1]
        dsimp only
        rw [q2]
        dsimp only
        rw [if_neg (by simp), hk]
theorem qKey_stop {c : Int} {l : List Int} (h : Er c) : qKey (l, c) = (ky0, (l, c)) := by
  unfold qKey
  rw [qNum_stop h]
  dsimp only
  rw [qText_stop h]
  dsimp only
  rw [if_pos h.nz]
theorem w64 {v : Int} (h0 : 0 ≤ v) (h1 : v < 9223372036854775808) : wrap64 v = v := by unfold wrap64; omega
theorem w32 {v : Int} (h0 : 0 ≤ v) (h1 : v ≤ 4294967295) : IntKind.u32.wrap v = v := by rw [IntKind.wrap_u32]; omega
/-- What a part leaves. -/
def QPost (B M : Nat) (w : World) (qb eb : Nat) (R : Except Int (Ed × List Int)) (en : Ending) (w' : World) : Prop :=
  en = .returned (.tuple #[]) ∧ ((∃ e' l', R = .ok (e', l') ∧ ∃ P', Qs B M w' qb eb (l', 0) P' e') ∨ (∃ c e' l', R = .error c ∧ ∃ P', Qs B M w' qb eb (l', c) P' e')) ∧ Upd (Fq M qb eb) w w'
section
variable {B M : Nat} {w : World} {qb eb : Nat} {l : List Int} {P : En} {e : Ed}
theorem qp_ok {n : Int} {R : Except Int (Ed × List Int)} {e' : Ed} {l' : List Int} (hR : R = .ok (e', l')) (hc : Calls Try.prog 45 #[ptr qb, .int .u8 n, .pointer (some ⟨eb, 0, none⟩)] w fun en w' => en = .returned (.tuple #[]) ∧ (∃ P', Qs B M w' qb eb (l', 0) P' e') ∧ Upd (Fq M qb eb) w w') :
    Calls Try.prog 45 #[ptr qb, .int .u8 n, .pointer (some ⟨eb, 0, none⟩)] w (QPost B M w qb eb R) := hc.mono (by
  rintro en w' ⟨h1, h2, h3⟩
  exact ⟨h1, .inl ⟨e', l', hR, h2⟩, h3⟩)
theorem qp_er {n : Int} {R : Except Int (Ed × List Int)} {c : Int} {e' : Ed} {l' : List Int} (hR : R = .error c) (hc : Calls Try.prog 45 #[ptr qb, .int .u8 n, .pointer (some ⟨eb, 0, none⟩)] w fun en w' => en = .returned (.tuple #[]) ∧ (∃ P', Qs B M w' qb eb (l', c) P' e') ∧ Upd (Fq M qb eb) w w') :
    Calls Try.prog 45 #[ptr qb, .int .u8 n, .pointer (some ⟨eb, 0, none⟩)] w (QPost B M w qb eb R) := hc.mono (by
  rintro en w' ⟨h1, h2, h3⟩
  exact ⟨h1, .inr ⟨c, e', l', hR, h2⟩, h3⟩)
def pFam (e : Ed) (l : List Int) : Except Int (Ed × List Int) := match pVar 4294967295 l with
  | .error c => .error c
  | .ok (v, l1) => .ok ({ e with fam := v }, l1)
theorem qp1 (h : Qs B M w qb eb (l, 0) P e) : Calls Try.prog 45 #[ptr qb, .int .u8 1, .pointer (some ⟨eb, 0, none⟩)] w (QPost B M w qb eb (pFam e l)) := by
  unfold pFam
  cases hv : pVar 4294967295 l with
  | error c =>
    obtain ⟨v, l', hq⟩ := qNum_err hv
    exact qp_er rfl (qpart1 h hq)
  | ok x =>
    obtain ⟨v, l1⟩ := x
    have hb := pVar_bd2 hv
    have := qpart1 h (qNum_ok hv)
    rw [w32 hb.1 hb.2.1] at this
    exact qp_ok rfl this
theorem qp4 (h : Qs B M w qb eb (l, 0) P e) : Calls Try.prog 45 #[ptr qb, .int .u8 4, .pointer (some ⟨eb, 0, none⟩)] w (QPost B M w qb eb (pPart 4 e l)) := by
  unfold pPart
  rw [if_neg (by decide), if_neg (by decide), if_pos rfl]
  cases hv : pAny l with
  | error c =>
    obtain ⟨v, l', hq⟩ := qNum_err hv
    exact qp_er rfl (qpart4 h hq)
  | ok x =>
    obtain ⟨v, l1⟩ := x
    exact qp_ok rfl (qpart4 h (qNum_ok hv))
theorem qp5 (h : Qs B M w qb eb (l, 0) P e) : Calls Try.prog 45 #[ptr qb, .int .u8 5, .pointer (some ⟨eb, 0, none⟩)] w (QPost B M w qb eb (pPart 5 e l)) := by
  unfold pPart
  rw [if_neg (by decide), if_neg (by decide), if_neg (by decide), if_pos rfl]
  cases hv : pAny l with
  | error c =>
    obtain ⟨v, l', hq⟩ := qNum_err hv
    exact qp_er rfl (qpart5 h hq)
  | ok x =>
    obtain ⟨v, l1⟩ := x
    exact qp_ok rfl (qpart5 h (qNum_ok hv))
theorem qp6 (h : Qs B M w qb eb (l, 0) P e) : Calls Try.prog 45 #[ptr qb, .int .u8 6, .pointer (some ⟨eb, 0, none⟩)] w (QPost B M w qb eb (pPart 6 e l)) := by
  unfold pPart
  rw [if_neg (by decide), if_neg (by decide), if_neg (by decide), if_neg (by decide), if_pos rfl]
  cases hv : pAny l with
  | error c =>
    obtain ⟨v, l', hq⟩ := qNum_err hv
    exact qp_er rfl (qpart6 h hq)
  | ok x =>
    obtain ⟨v, l1⟩ := x
    exact qp_ok rfl (qpart6 h (qNum_ok hv))
theorem qp3 (h : Qs B M w qb eb (l, 0) P e) : Calls Try.prog 45 #[ptr qb, .int .u8 3, .pointer (some ⟨eb, 0, none⟩)] w (QPost B M w qb eb (pPart 3 e l)) := by
  unfold pPart
  rw [if_neg (by decide), if_pos rfl]
  cases hm : e.ma with
  | true => exact qp_er (by simp) (qpart3n h hm)
  | false => exact qp_ok (by simp [hm]) (qpart3y h hm)
theorem qp2 (h : Qs B M w qb eb (l, 0) P e) : Calls Try.prog 45 #[ptr qb, .int .u8 2, .pointer (some ⟨eb, 0, none⟩)] w (QPost B M w qb eb (pPart 2 e l)) := by
  unfold pPart
  rw [if_pos rfl]
  cases hv : pVar 1 l with
  | error c =>
    obtain ⟨v, l', hq⟩ := qNum_err hv
    have he := pVar_er hv
    exact qp_er rfl (qpart2e h hq (qNum_stop he) he.nz (qText_stop he))
  | ok x =>
    obtain ⟨v, l1⟩ := x
    have hb := pVar_bd2 hv
    dsimp only
    unfold pName
    cases hn : pVar 64 l1 with
    | error c =>
      obtain ⟨v', l', hq⟩ := qNum_err hn
      have he := pVar_er hn
      exact qp_er rfl (qpart2e h (qNum_ok hv) hq he.nz (qText_stop he))
    | ok y =>
      obtain ⟨k, l2⟩ := y
      have hbk := pVar_bd2 hn
      dsimp only
      by_cases hk : k ≤ 0
      · rw [if_pos hk]
        have hk0 : k = 0 := by omega
        subst hk0
        exact qp_er rfl (qpart2z h (qNum_ok hv) (qNum_ok hn) ⟨rfl, rfl⟩ (qText_stop (.inl rfl)))
      · rw [if_neg hk]
        cases ht : pTake k.toNat l2 with
        | error c => exact qp_er rfl (qpart2n h (qNum_ok hv) (qNum_ok hn) ⟨rfl, by omega⟩ (qText_err hbk.1 ht))
        | ok z =>
          obtain ⟨t, l3⟩ := z
          have := qpart2n h (qNum_ok hv) (qNum_ok hn) ⟨rfl, by omega⟩ (qText_ok hbk.1 ht)
          rw [w64 hb.1 (by omega)] at this
          exact qp_ok rfl this
theorem qp7 (h : Qs B M w qb eb (l, 0) P e) (hm : roomB e = true) : Calls Try.prog 45 #[ptr qb, .int .u8 7, .pointer (some ⟨eb, 0, none⟩)] w (QPost B M w qb eb (pPart 7 e l)) := by
  unfold pPart
  rw [if_neg (by decide), if_neg (by decide), if_neg (by decide), if_neg (by decide), if_neg (by decide), if_pos rfl, hm, if_neg (by decide)]
  cases hv : pLvl l with
  | error c =>
    obtain ⟨v, l', hq⟩ := qNum_err hv
    have he := pVar_er hv
    exact qp_er rfl (qpart7 h hm hq (qNum_stop he))
  | ok x =>
    obtain ⟨v, l1⟩ := x
    have hb := pVar_bd2 hv
    dsimp only
    cases hn : pAny l1 with
    | error c =>
      obtain ⟨v', l', hq⟩ := qNum_err hn
      exact qp_er rfl (qpart7 h hm (qNum_ok hv) hq)
    | ok y =>
      obtain ⟨k, l2⟩ := y
      have := qpart7 h hm (qNum_ok hv) (qNum_ok hn)
      rw [w64 hb.1 (by omega)] at this
      exact qp_ok rfl this
theorem qp8 (h : Qs B M w qb eb (l, 0) P e) (hm : roomB e = true) : Calls Try.prog 45 #[ptr qb, .int .u8 8, .pointer (some ⟨eb, 0, none⟩)] w (QPost B M w qb eb (pPart 8 e l)) := by
  unfold pPart
  rw [if_neg (by decide), if_neg (by decide), if_neg (by decide), if_neg (by decide), if_neg (by decide), if_neg (by decide), if_pos rfl, hm, if_neg (by decide)]
  cases hv : pLvl l with
  | error c =>
    obtain ⟨v, l', hq⟩ := qNum_err hv
    have he := pVar_er hv
    exact qp_er rfl (qpart8 h hm hq (qNum_stop he) (qNum_stop he) (qNum_stop he) (qNum_stop he) (qKey_stop he) (qKey_stop he))
  | ok x =>
    obtain ⟨v, l1⟩ := x
    have hb := pVar_bd2 hv
    dsimp only
    unfold pFile
    cases h2 : pAny l1 with
    | error c =>
      obtain ⟨v', l', hq⟩ := qNum_err h2
      have he := pVar_er h2
      exact qp_er rfl (qpart8 h hm (qNum_ok hv)  hq (qNum_stop he) (qNum_stop he) (qNum_stop he) (qKey_stop he) (qKey_stop he))
    | ok x =>
      obtain ⟨x2, l2⟩ := x
      dsimp only
      cases h3 : pAny l2 with
      | error c =>
        obtain ⟨v', l', hq⟩ := qNum_err h3
        have he := pVar_er h3
        exact qp_er rfl (qpart8 h hm (qNum_ok hv) (qNum_ok h2) hq (qNum_stop he) (qNum_stop he) (qKey_stop he) (qKey_stop he))
      | ok x =>
        obtain ⟨x3, l3⟩ := x
        dsimp only
        cases h4 : pAny l3 with
        | error c =>
          obtain ⟨v', l', hq⟩ := qNum_err h4
          have he := pVar_er h4
          exact qp_er rfl (qpart8 h hm (qNum_ok hv) (qNum_ok h2) (qNum_ok h3) hq (qNum_stop he) (qKey_stop he) (qKey_stop he))
        | ok x =>
          obtain ⟨x4, l4⟩ := x
          dsimp only
          cases h5 : pAny l4 with
          | error c =>
            obtain ⟨v', l', hq⟩ := qNum_err h5
            have he := pVar_er h5
            exact qp_er rfl (qpart8 h hm (qNum_ok hv) (qNum_ok h2) (qNum_ok h3) (qNum_ok h4) hq (qKey_stop he) (qKey_stop he))
          | ok x =>
            obtain ⟨x5, l5⟩ := x
            dsimp only
            cases h6 : pKey l5 with
            | error c =>
              obtain ⟨v', l', hq⟩ := qKey_err h6
              have he := pKey_er h6
              exact qp_er rfl (qpart8 h hm (qNum_ok hv) (qNum_ok h2) (qNum_ok h3) (qNum_ok h4) (qNum_ok h5) hq (qKey_stop he))
            | ok x =>
              obtain ⟨x6, l6⟩ := x
              dsimp only
              cases h7 : pKey l6 with
              | error c =>
                obtain ⟨v', l', hq⟩ := qKey_err h7
                have he := pKey_er h7
                exact qp_er rfl (qpart8 h hm (qNum_ok hv) (qNum_ok h2) (qNum_ok h3) (qNum_ok h4) (qNum_ok h5) (qKey_ok h6) hq )
              | ok x =>
                obtain ⟨x7, l7⟩ := x
                dsimp only
                have := qpart8 h hm (qNum_ok hv) (qNum_ok h2) (qNum_ok h3) (qNum_ok h4) (qNum_ok h5) (qKey_ok h6) (qKey_ok h7)
                rw [w64 hb.1 (by omega)] at this
                exact qp_ok rfl this
end
end Go.Proofs.Ytkmpcheamdadcaa
