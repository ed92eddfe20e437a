import Derived.Test.YtlkfabejecgfgaaFf
namespace Go.Proofs.Ytlkfabejecgfgaa
open Go.RowKit Go.Maps
set_option linter.unusedVariables false
set_option linter.unusedSimpArgs false
def rmX (r : Nat) (x : Xs) : Xs := roomX 0 r x.q.length x
def Cs.upto (s : Cs) (r m : Nat) : Cs := { s with r := r, xs := (s.xs.take m).map (rmX r) ++ s.xs.drop m }
def roomC (s : Cs) (room : Nat) : Cs := { s with r := room / s.xs.length, xs := s.xs.map (rmX (room / s.xs.length)) }
section
variable {w : World} {L : Lo} {s : Cs}
theorem Ca.other {w' : World} {s' : Cs} (h : Ca w L s) (hB : Blk w' L.cb 58 (caC L s')) (hx : s'.xs = s.xs) (hp : s'.P = s.P) (U : Upd (fun k => k = L.cb) w w') : Ca w' L s' := by
  obtain ⟨D, hD, hs⟩ := h.pin
  refine ⟨hB, ?_, ⟨D, ?_, by rw [hp]; exact hs⟩, by rw [hx]; exact h.mm, by rw [hx]; exact h.mp, by rw [hx]; exact h.aa⟩
  · obtain ⟨rc, hrl, hS⟩ := h.row
    rw [hx]
    refine ⟨rc, hrl, fun a y hy => ?_⟩
    have S := hS a y hy
    obtain ⟨D2, hD2, hs2⟩ := S.map
    have hne : ∀ k, Sb L.rb (L.mbs a) (L.ads a) y.ent.length k → ¬ (k = L.cb) := fun k hk => (h.ne1 hy hk).1
    exact ⟨S.row.upd U (hne _ (.inr (.inl rfl))), S.cel, ⟨D2, hD2.upd U (hne _ (.inl rfl)), hs2⟩, S.ent.upd U (fun j hj => hne _ (.inr (.inr ⟨j, hj, rfl⟩))), S.inj, S.nd, S.qr, S.fr, S.ub, S.pb, S.wk⟩
  · have e1 : (fun k => (s'.pin k).map (fun ij => L.ads ij.1 ij.2)) = fun k => (s.pin k).map (fun ij => L.ads ij.1 ij.2) := by
      funext k; unfold Cs.pin; rw [hp]
    rw [e1]
    exact hD.upd U (fun e => hD.ne h.blk e)
theorem upto_get {s : Cs} {r m : Nat} {x : Xs} (hx : s.xs[m]? = some x) : (s.upto r m).xs[m]? = some x := by
  have hm := (List.getElem?_eq_some_iff.1 hx).1
  unfold Cs.upto
  simp only []
  rw [List.getElem?_append_right (by simp; omega)]
  simp only [List.length_map, List.length_take, List.getElem?_drop]
  rw [show m + (m - min m s.xs.length) = m by omega]; exact hx
theorem upto_set {s : Cs} {r m : Nat} {x : Xs} (hx : s.xs[m]? = some x) : ({ (s.upto r m) with xs := (s.upto r m).xs.set m (rmX r x) } : Cs) = s.upto r (m + 1) := by
  have hm := (List.getElem?_eq_some_iff.1 hx).1
  have hl : ((s.xs.take m).map (rmX r)).length = m := by simp; omega
  unfold Cs.upto
  simp only [Cs.mk.injEq, true_and, and_true]
  rw [List.set_append_right _ _ (by omega), hl, Nat.sub_self]
  have hd : s.xs.drop m = x :: s.xs.drop (m + 1) := by
    rw [List.drop_eq_getElem_cons hm]
    have := (List.getElem?_eq_some_iff.1 hx).2
    rw [this]
  rw [hd, List.set_cons_zero, List.take_add_one, hx]
  simp
theorem upto_len (s : Cs) (r m : Nat) : (s.upto r m).xs.length = s.xs.length := by
  unfold Cs.upto; simp; omega
theorem upto_all (s : Cs) (room : Nat) : s.upto (room / s.xs.length) s.xs.length = roomC s room := by
  unfold Cs.upto roomC; simp
theorem rm_ent (r : Nat) {x : Xs} (I : Iv x) : (rmX r x).ent = x.ent := (Iv.room 0 r _ x I).2
theorem upto_el {s : Cs} (hiv : ∀ (i : Nat) (x : Xs), s.xs[i]? = some x → Iv x) {r m a : Nat} {y : Xs} (hy : (s.upto r m).xs[a]? = some y) : ∃ y', s.xs[a]? = some y' ∧ y.ent = y'.ent := by
  unfold Cs.upto at hy
  simp only [] at hy
  by_cases c : a < m
  · by_cases ha : a < s.xs.length
    · rw [List.getElem?_append_left (by simp; omega), List.getElem?_map, List.getElem?_take] at hy
      rw [if_pos c] at hy
      cases hg : s.xs[a]? with
      | none => rw [hg] at hy; cases hy
      | some y' =>
        rw [hg] at hy
        simp at hy
        exact ⟨y', rfl, by rw [← hy]; exact rm_ent r (hiv a y' hg)⟩
    · rw [List.getElem?_eq_none (by simp; omega)] at hy; cases hy
  · rw [List.getElem?_append_right (by simp; omega), List.getElem?_drop] at hy
    simp only [List.length_map, List.length_take] at hy
    by_cases hm : m ≤ s.xs.length
    · rw [show m + (a - min m s.xs.length) = a by omega] at hy
      exact ⟨y, hy, rfl⟩
    · rw [List.getElem?_eq_none (by omega)] at hy; cases hy
theorem upto_sub {s : Cs} (hiv : ∀ (i : Nat) (x : Xs), s.xs[i]? = some x → Iv x) {r m : Nat} {L : Lo} {k : Nat} (h : Cb L (s.upto r m) k) : Cb L s k := by
  rcases h with e | e | ⟨b, y, hy, hb⟩
  · exact .inl e
  · exact .inr (.inl e)
  · obtain ⟨y', h1, h2⟩ := upto_el hiv hy
    rw [h2] at hb
    exact Cb.sub h1 hb
set_option maxRecDepth 100000 in
set_option maxHeartbeats 2000000 in
theorem room_any (h : Ca w L s) (n1 : 1 ≤ s.xs.length) (n2 : s.xs.length ≤ 64) (hiv : ∀ (i : Nat) (x : Xs), s.xs[i]? = some x → Iv x) {room : Nat} (hr : room < 18446744073709551616) :
    Calls Try.prog 20 #[.pointer (some ⟨L.cb, 0, none⟩), .int .u64 room] w fun e w' => e = .returned (.tuple #[]) ∧ Ca w' L (roomC s room) ∧ Upd (Cb L s) w w' := by
  have c0 := h.blk.cell1 0 _ rfl
  have c1 := h.blk.cell1 1 _ rfl
  have f1 := h.blk.frozen 1
  have hq : room / s.xs.length < 18446744073709551616 := Nat.lt_of_le_of_lt (Nat.div_le_self _ _) hr
  have B1 : Blk (w.setCell ⟨L.cb, 1, none⟩ (.int .u64 ((room / s.xs.length : Nat) : Int))) L.cb 58 (caC L (s.upto (room / s.xs.length) 0)) := by
    have := h.blk.set 1 (.int .u64 ((room / s.xs.length : Nat) : Int))
    unfold caC Cs.upto at *
    simpa using this
  have C1 := h.other (s' := s.upto (room / s.xs.length) 0) B1 (by unfold Cs.upto; simp) rfl (Upd.setCell (p := ⟨L.cb, 1, none⟩) (Upd.refl (fun k => k = L.cb) w) (fun _ => rfl) _)
  have U1 : Upd (Cb L s) w (w.setCell ⟨L.cb, 1, none⟩ (.int .u64 ((room / s.xs.length : Nat) : Int))) := Upd.setCell (p := ⟨L.cb, 1, none⟩) (Upd.refl _ w) (fun _ => .inl rfl) _
  obtain ⟨w1, hw1⟩ : ∃ W, w.setCell ⟨L.cb, 1, none⟩ (.int .u64 ((room / s.xs.length : Nat) : Int)) = W := ⟨_, rfl⟩
  rw [hw1] at C1 U1
  clear B1
  have d0 : w1.cell? ⟨L.cb, 0, none⟩ = some (.slice (some ⟨L.rb, 0, none⟩) s.xs.length s.xs.length) := by
    have := C1.blk.cell1 0 _ rfl
    rw [upto_len] at this; exact this
  have hall := upto_all s room
  rw [← hall]
  clear hall
  obtain ⟨r', hr'⟩ : ∃ r', room / s.xs.length = r' := ⟨_, rfl⟩
  have hdv : ((room : Nat) : Int).tdiv (s.xs.length : Nat) = (r' : Nat) := by rw [← hr']; rfl
  rw [hr'] at C1 hw1 hq ⊢
  clear hr'
  obtain ⟨n, hn⟩ : ∃ n, s.xs.length = n := ⟨_, rfl⟩
  rw [hn] at c0 d0 n1 n2 hdv ⊢
  go_enter Try.func20, Try.ntmps20
  go_wp2_with fail
  have C1' : Hid _ := C1
  have U1' : Hid _ := U1
  clear c0 c1 f1 d0 C1 U1 hdv
  go_loopw [21] (fun i wr => ∃ m : Nat, i = .int .i64 m ∧ m ≤ n ∧ Ca wr L (s.upto r' m) ∧ Upd (Cb L s) w wr) (fun i wr => match i with | .int _ z => n - z.toNat | _ => 0)
  case atStart => exact ⟨0, rfl, Nat.zero_le _, C1'.out, U1'.out⟩
  case round =>
    obtain ⟨m, rfl, hm, C, U⟩ := hrel
    clear C1' U1' hw1
    have U' : Hid _ := U
    clear U
    by_cases hlt : m < n
    · have hlt' : (m : Int) < n := by omega
      obtain ⟨x, hx⟩ : ∃ x, s.xs[m]? = some x := ⟨_, List.getElem?_eq_getElem (by omega)⟩
      have I := hiv m x hx
      have e0 : wr.cell? ⟨L.cb, 0, none⟩ = some (.slice (some ⟨L.rb, 0, none⟩) n n) := by
        have := C.blk.cell1 0 _ rfl
        rw [upto_len, hn] at this; exact this
      have e1 : wr.cell? ⟨L.cb, 1, none⟩ = some (.int .u64 r') := C.blk.cell1 1 _ rfl
      obtain ⟨rc, hrl, hS⟩ := C.drew.row
      have S := hS m x (upto_get hx)
      have HM := makeRoom_any S (fun a ha => by
        obtain ⟨e, h1, h2, _⟩ := (I.qe a).1 ha
        exact ⟨e, h1, h2⟩) (c := 0) (by omega) hq
      have C' : Hid _ := C.drew
      have hS' : Hid _ := hS
      clear C hS S
      go_wp2_with fail
      go_region_with (go_at_call 39; refine HM.mono ?_; rintro e' w3 ⟨rfl, rc3, S3, K3, U3⟩)
      all_goals
        go_wp2
        go_roundw
        case rel =>
          have C3 := C'.out.shard (upto_get hx) hS'.out hrl S3 (by rw [show roomX 0 r' x.q.length x = rmX r' x from rfl, rm_ent r' I]) K3 U3
          rw [show roomX 0 r' x.q.length x = rmX r' x from rfl, upto_set hx] at C3
          exact ⟨m + 1, rfl, hlt, C3, U'.out.trans ((Upd.drew (Upd.refl _ wr)).trans (U3.mono (fun a _ ha => Cb.sub hx ha)))⟩
        case measure => simp only []; omega
    · have hlt' : (m : Int) = n := by omega
      have hmn : m = n := by omega
      subst hmn
      have C' : Hid _ := C
      clear C
      go_wp2_with fail
      go_end0
      exact ⟨rfl, C'.out, U'.out⟩
end
end Go.Proofs.Ytlkfabejecgfgaa
