/-
  New, Most.
-/
import Derived.Test.YtagnnocecfoggaaQa
namespace Go.Proofs.Ytagnnocecfoggaa
open Go.RowKit
set_option linter.unusedVariables false
set_option linter.unusedSimpArgs false
theorem insG_len {α : Type} [DecidableEq α] (lt : α → α → Bool) (o : List α) (x : α) : (insG lt o x).length ≤ o.length + 1 := by
  unfold insG
  split
  · omega
  · simp; have := plc_le (lt := lt) o x; omega
theorem keysOf_len (how : Int) (l : List Tm) : (keysOf how l).length ≤ 2 * l.length := by
  have H : ∀ (l : List Tm) (o : List ByteArray), (l.foldl (fun o t => if lies how t = true then insG (kl how) (insG (kl how) o t.b) t.e else o) o).length ≤ o.length + 2 * l.length := by
    intro l
    induction l with
    | nil => intro o; simp
    | cons t l ih =>
      intro o
      rw [List.foldl_cons]
      have := ih (if lies how t = true then insG (kl how) (insG (kl how) o t.b) t.e else o)
      have h2 : (if lies how t = true then insG (kl how) (insG (kl how) o t.b) t.e else o).length ≤ o.length + 2 := by
        split
        · have a := insG_len (kl how) o t.b
          have b := insG_len (kl how) (insG (kl how) o t.b) t.e
          omega
        · omega
      simp only [List.length_cons]
      omega
  have := H l []
  simpa [keysOf] using this
theorem seqsAt_len (how : Int) (l : List Tm) (k : ByteArray) : (seqsAt how l k).length ≤ l.length := by
  have H : ∀ (l : List Tm) (o : List Int), (l.foldl (fun o t => if ovr how t k = true then insG gt o t.s else o) o).length ≤ o.length + l.length := by
    intro l
    induction l with
    | nil => intro o; simp
    | cons t l ih =>
      intro o
      rw [List.foldl_cons]
      have := ih (if ovr how t k = true then insG gt o t.s else o)
      have h2 : (if ovr how t k = true then insG gt o t.s else o).length ≤ o.length + 1 := by
        split
        · exact insG_len gt o t.s
        · omega
      simp only [List.length_cons]
      omega
  have := H l []
  simpa [seqsAt] using this
theorem frs_len (how : Int) (l : List Tm) : (frs how l).length ≤ 2 * l.length := by
  unfold frs
  refine Nat.le_trans (List.length_filter_le _ _) ?_
  rw [List.length_map, pcs_len]
  have := keysOf_len how l
  omega
theorem frs_q (how : Int) (l : List Tm) : ∀ f ∈ frs how l, f.q.length ≤ l.length := by
  intro f hf
  simp only [frs, List.mem_filter, List.mem_map] at hf
  obtain ⟨⟨p, _, rfl⟩, _⟩ := hf
  exact seqsAt_len how l _
/-- A set's fragments. -/
structure FrG (how : Int) (L : List Fg) : Prop where
  o : FrO how L
  fall : ∀ f ∈ L, Str gt f.q
  len : L.length ≤ 10000
  qlen : ∀ f ∈ L, f.q.length ≤ 10000
theorem frs_g {how : Int} {l : List Tm} (hl : l.length ≤ 1024) : FrG how (frs how l) := by
  have h := frs_frs how l
  exact ⟨⟨h.be, h.up⟩, h.fall, by have := frs_len how l; omega, fun f hf => by have := frs_q how l f hf; omega⟩
theorem splE_len {how : Int} {l : List Tm} (h : splE how l = 0) : l.length ≤ 1024 ∧ isHowB how = true ∧ chkE l = 0 := by
  unfold splE at h
  split at h
  · split at h
    · omega
    · exact ⟨by omega, ‹_›, h⟩
  · omega
set_option maxRecDepth 100000 in
set_option maxHeartbeats 1000000 in
theorem New_any {w : World} {a : Option Addr} {cap : Nat} {l : List Tm} (h : RdT w a l) (how : Int) :
    Calls Try.prog 15 #[.int .i64 how, .slice a l.length cap] w fun e w' => Below w.heap.size w w' ∧ ((splE how l ≠ 0 ∧ e = .returned (.tuple #[.pointer none, .int .i64 (splE how l)])) ∨ (splE how l = 0 ∧ ∃ S a' c, w.heap.size ≤ S ∧ e = .returned (.tuple #[ptr S, .int .i64 0]) ∧ St w' S how a' c (frs how l))) := by
  have HS : Hid (Calls Try.prog 7 #[.int .i64 how, .slice a l.length cap] w fun e w' => ∃ a' c, e = .returned (.tuple #[.slice a' (sL how l).length c, .int .i64 (splE how l)]) ∧ (sL how l).length ≤ c ∧ RdF w' a' (sL how l) ∧ Below w.heap.size w w') := Split_any h how
  have HL : Hid (splE how l = 0 → sL how l = frs how l) := fun h0 => by unfold sL; rw [if_pos h0]
  generalize sL how l = L at *
  generalize frs how l = F at *
  generalize splE how l = ER at *
  generalize l.length = N at *
  clear h
  by_cases h0 : ER = 0
  · subst h0
    have hLF := HL.out rfl
    subst hLF
    obtain ⟨M, hM⟩ : ∃ M, Hid (L.length = M) := ⟨_, rfl⟩
    rw [hM.out] at HS
    go_enter Try.func15, Try.ntmps15
    go_wp2_with (go_at_call 7; refine HS.out.mono ?_; rintro e w1 ⟨a1, c1, rfl, r0, r1, r2⟩; have HB : Hid (RdF w1 a1 L ∧ Below w.heap.size w w1) := ⟨r1, r2⟩; have HC : Hid (M ≤ c1) := r0; clear r0 r1 r2)
    go_ret2
    have hb : Below w1.heap.size w1 (w1.alloc (.cells #[.int .i64 how, .slice a1 M c1] 79)) := (Below.refl _ _).alloc (Nat.le_refl _) _
    refine ⟨HB.out.2.trans (hb.mono HB.out.2.size), .inr ⟨trivial, w1.heap.size, a1, c1, HB.out.2.size, rfl, ?_, HB.out.1.below hb, by rw [hM.out]; exact HC.out⟩⟩
    rw [hM.out]
    exact Blk.new w1 79 [.int .i64 how, .slice a1 M c1]
  · have hne : (ER != 0) = true := by simpa using h0
    go_enter Try.func15, Try.ntmps15
    go_wp2_with (go_at_call 7; refine HS.out.mono ?_; rintro e w1 ⟨a1, c1, rfl, r0, r1, r2⟩; have HB : Hid (Below w.heap.size w w1) := r2; clear r0 r1 r2)
    go_ret2
    exact ⟨HB.out, .inl ⟨h0, rfl⟩⟩
set_option maxRecDepth 100000 in
set_option maxHeartbeats 1000000 in
theorem Most_any {w : World} {S : Nat} {how : Int} {a : Option Addr} {c : Nat} {L : List Fg} (h : St w S how a c L) (hg : FrG how L) (key : ByteArray) (n : Int) :
    Calls Try.prog 18 #[ptr S, .string key, .int .u64 n] w fun e w' => e = .returned (.int .u64 (mostF how L key n)) ∧ Below w.heap.size w w' := by
  have HR := reach_any h hg.o key hg.len
  have HSt : Hid (∀ w', Below w.heap.size w w' → St w' S how a c L) := fun w' hb => h.below hb
  obtain ⟨R, hR⟩ : ∃ R, Hid (mostF how L key n = R) := ⟨_, rfl⟩
  rw [hR.out]
  have HM : Hid (R = match L[rch how L key]? with | some f => (if kl how key f.b = true then 0 else mostQ f.q n) | none => 0) := by
    show _ = _
    rw [← hR.out]
    unfold mostF
    rw [find_findIdx]
    unfold rch
    cases L[L.findIdx fun f => kl how key f.e]? <;> rfl
  have hil : rch how L key ≤ L.length := List.findIdx_le_length
  generalize rch how L key = i at *
  obtain ⟨N, hN⟩ : ∃ N, Hid (N = L.length) := ⟨_, rfl⟩
  have hl := hg.len
  rw [← hN.out] at hil hl
  clear h
  rcases Nat.lt_or_ge i N with hiN | hiN
  · obtain ⟨f, hf⟩ : ∃ f, L[i]? = some f := ⟨_, List.getElem?_eq_getElem (by rw [← hN.out]; exact hiN)⟩
    have hne : ((i : Int) == N) = false := by simp; omega
    have hiz : (i : Int) < N := by omega
    have hMf : R = if kl how key f.b = true then 0 else mostQ f.q n := by have := HM.out; rw [hf] at this; exact this
    have HMf : Hid (R = if kl how key f.b = true then 0 else mostQ f.q n) := hMf
    have HG : Hid (L[i]? = some f ∧ Str gt f.q ∧ f.q.length ≤ 10000) := ⟨hf, hg.fall f (List.mem_of_getElem? hf), hg.qlen f (List.mem_of_getElem? hf)⟩
    have HW : Hid (∀ w', Below w.heap.size w w' → ∃ g o pa pk, a = some ⟨g, o, none⟩ ∧ w'.cell? ⟨S, 0, none⟩ = some (.int .i64 how) ∧ w'.cell? ⟨S, 1, none⟩ = some (.slice (some ⟨g, o, none⟩) N c) ∧ w'.cell? ⟨g, o + i * 3, none⟩ = some (.string f.b) ∧ w'.cell? ⟨g, o + i * 3 + 2, none⟩ = some (.slice pa f.q.length pk) ∧ Rd uc 1 w' pa f.q) := fun w' hb => by
      have h' := HSt.out w' hb
      obtain ⟨g, o, pa, pk, e, t0, t1, t2, t3⟩ := h'.rd.at_ hf
      refine ⟨g, o, pa, pk, e, h'.blk.cell1 0 _ rfl, ?_, t0, t2, t3⟩
      have := h'.blk.cell1 1 _ rfl
      rw [e, ← hN.out] at this
      exact this
    clear hf hMf HM hg
    cases hk : kl how key f.b
    · have hc : decide (0 < cmpH how f.b key) = false := by rw [gt_of]; exact hk
      go_enter Try.func18, Try.ntmps18
      go_wp2_with (go_at_call 41; refine HR.mono ?_; rintro e w1 ⟨rfl, hb1⟩; obtain ⟨g, o, pa, pk, rfl, s0, s1, t0, t2, t3⟩ := HW.out w1 hb1; have HB1 : Hid (Below w.heap.size w w1 ∧ Rd uc 1 w1 pa f.q) := ⟨hb1, t3⟩; clear hb1 t3)
      go_quiet ((go_at_call 42; exact Calls.quiet_of_same (ccmp_any _ _ _ _)))
      have s1' : (w1.drewN nq).cell? ⟨S, 1, none⟩ = some (.slice (some ⟨g, o, none⟩) N c) := s1
      have t2' : (w1.drewN nq).cell? ⟨g, o + i * 3 + 2, none⟩ = some (.slice pa f.q.length pk) := t2
      have HB2 : Hid (Below w.heap.size w (w1.drewN nq)) := belN HB1.out.1 _
      have HMo : Hid (Calls Try.prog 43 #[.slice pa f.q.length pk, .int .u64 n] (w1.drewN nq) fun e w' => e = .returned (.int .u64 (mostQ f.q n)) ∧ Below (w1.drewN nq).heap.size (w1.drewN nq) w') := most_any (HB1.out.2.below (belN (Below.refl _ _) _)) HG.out.2.1 n HG.out.2.2
      clear s0 s1 t0 t2
      generalize w1.drewN nq = W1 at *
      generalize hql : f.q.length = QN at *
      go_wp2_with (go_at_call 43; refine HMo.out.mono ?_; rintro e w2 ⟨rfl, hb2⟩; have HB3 : Hid (Below w.heap.size w w2) := HB2.out.trans (hb2.mono HB2.out.size); clear hb2)
      go_ret
      refine ⟨?_, HB3.out⟩
      rw [HMf.out, hk]
      rfl
    · have hc : decide (0 < cmpH how f.b key) = true := by rw [gt_of]; exact hk
      go_enter Try.func18, Try.ntmps18
      go_wp2_with (go_at_call 41; refine HR.mono ?_; rintro e w1 ⟨rfl, hb1⟩; obtain ⟨g, o, pa, pk, rfl, s0, s1, t0, t2, t3⟩ := HW.out w1 hb1; have HB1 : Hid (Below w.heap.size w w1) := hb1; clear hb1 t3)
      go_quiet ((go_at_call 42; exact Calls.quiet_of_same (ccmp_any _ _ _ _)))
      go_wp2_with fail
      go_ret
      refine ⟨?_, belN HB1.out _⟩
      rw [HMf.out, hk]
      rfl
  · obtain rfl : i = N := by omega
    have hR0 : R = 0 := by have := HM.out; rw [List.getElem?_eq_none (by rw [← hN.out]; omega)] at this; exact this
    have hee : ((i : Int) == i) = true := by simp
    have HW : Hid (∀ w', Below w.heap.size w w' → w'.cell? ⟨S, 0, none⟩ = some (.int .i64 how) ∧ w'.cell? ⟨S, 1, none⟩ = some (.slice a i c)) := fun w' hb => by
      have h' := HSt.out w' hb
      have := h'.blk.cell1 1 _ rfl
      rw [← hN.out] at this
      exact ⟨h'.blk.cell1 0 _ rfl, this⟩
    clear hg HM
    go_enter Try.func18, Try.ntmps18
    go_wp2_with (go_at_call 41; refine HR.mono ?_; rintro e w1 ⟨rfl, hb1⟩; obtain ⟨s0, s1⟩ := HW.out w1 hb1; have HB1 : Hid (Below w.heap.size w w1) := hb1; clear hb1)
    first | go_quiet (fail) | go_big_quiet (fail)
    go_wp2_with fail
    go_ret
    exact ⟨by rw [hR0]; rfl, belN HB1.out _⟩
end Go.Proofs.Ytagnnocecfoggaa
