/-
  The cache of strings: contracts of the same functions at the other type.
-/
import Derived.Test.YtlkfabejecgfgaaTd
namespace Go.Proofs.Ytlkfabejecgfgaa.S
open Go.RowKit Go.Maps
set_option linter.unusedVariables false
set_option linter.unusedSimpArgs false
section
variable {w : World} {L : Lo} {s : Cs}
theorem Ca.other {w' : World} {s' : Cs} (h : Ca w L s) (hB : Blk w' L.cb 101 (caC L s')) (hx : s'.xs = s.xs) (hp : s'.P = s.P) (U : Upd (fun k => k = L.cb) w w') : Ca w' L s' := by
  obtain ⟨D, hD, hs⟩ := h.pin
  refine ⟨hB, ?_, ⟨D, ?_, by rw [hp]; exact hs⟩, by rw [hx]; exact h.mm, by rw [hx]; exact h.mp, by rw [hx]; exact h.aa⟩
  · obtain ⟨rc, hrl, hS⟩ := h.row
    rw [hx]
    refine ⟨rc, hrl, fun a y hy => ?_⟩
    have S := hS a y hy
    obtain ⟨D2, hD2, hs2⟩ := S.map
    have hne : ∀ k, Sb L.rb (L.mbs a) (L.ads a) y.ent.length k → ¬ (k = L.cb) := fun k hk => (h.ne1 hy hk).1
    exact ⟨S.row.upd U (hne _ (.inr (.inl rfl))), S.cel, ⟨D2, hD2.upd U (hne _ (.inl rfl)), hs2⟩, S.ent.upd U (fun j hj => hne _ (.inr (.inr ⟨j, hj, rfl⟩))), S.inj, S.nd, S.qr, S.fr, S.ub, S.pb, S.wk⟩
  · have e1 : (fun k => (s'.pin k).map (fun ij => L.ads ij.1 ij.2)) = fun k => (s.pin k).map (fun ij => L.ads ij.1 ij.2) := by
      funext k; unfold Cs.pin; rw [hp]
    rw [e1]
    exact hD.upd U (fun e => hD.ne h.blk e)
set_option maxRecDepth 100000 in
set_option maxHeartbeats 2000000 in
theorem room_any (h : Ca w L s) (n1 : 1 ≤ s.xs.length) (n2 : s.xs.length ≤ 64) (hiv : ∀ (i : Nat) (x : Xs), s.xs[i]? = some x → Iv x) {room : Nat} (hr : room < 18446744073709551616) :
    Calls Try.prog 49 #[.pointer (some ⟨L.cb, 0, none⟩), .int .u64 room] w fun e w' => e = .returned (.tuple #[]) ∧ Ca w' L (roomC s room) ∧ Upd (Cb L s) w w' := by
  have c0 := h.blk.cell1 0 _ rfl
  have c1 := h.blk.cell1 1 _ rfl
  have f1 := h.blk.frozen 1
  have hq : room / s.xs.length < 18446744073709551616 := Nat.lt_of_le_of_lt (Nat.div_le_self _ _) hr
  have B1 : Blk (w.setCell ⟨L.cb, 1, none⟩ (.int .u64 ((room / s.xs.length : Nat) : Int))) L.cb 101 (caC L (s.upto (room / s.xs.length) 0)) := by
    have := h.blk.set 1 (.int .u64 ((room / s.xs.length : Nat) : Int))
    unfold caC Cs.upto at *
    simpa using this
  have C1 := h.other (s' := s.upto (room / s.xs.length) 0) B1 (by unfold Cs.upto; simp) rfl (Upd.setCell (p := ⟨L.cb, 1, none⟩) (Upd.refl (fun k => k = L.cb) w) (fun _ => rfl) _)
  have U1 : Upd (Cb L s) w (w.setCell ⟨L.cb, 1, none⟩ (.int .u64 ((room / s.xs.length : Nat) : Int))) := Upd.setCell (p := ⟨L.cb, 1, none⟩) (Upd.refl _ w) (fun _ => .inl rfl) _
  obtain ⟨w1, hw1⟩ : ∃ W, w.setCell ⟨L.cb, 1, none⟩ (.int .u64 ((room / s.xs.length : Nat) : Int)) = W := ⟨_, rfl⟩
  rw [hw1] at C1 U1
  clear B1
  have d0 : w1.cell? ⟨L.cb, 0, none⟩ = some (.slice (some ⟨L.rb, 0, none⟩) s.xs.length s.xs.length) := by
    have := C1.blk.cell1 0 _ rfl
    rw [upto_len] at this; exact this
  have hall := upto_all s room
  rw [← hall]
  clear hall
  obtain ⟨r', hr'⟩ : ∃ r', room / s.xs.length = r' := ⟨_, rfl⟩
  have hdv : ((room : Nat) : Int).tdiv (s.xs.length : Nat) = (r' : Nat) := by rw [← hr']; rfl
  rw [hr'] at C1 hw1 hq ⊢
  clear hr'
  obtain ⟨n, hn⟩ : ∃ n, s.xs.length = n := ⟨_, rfl⟩
  rw [hn] at c0 d0 n1 n2 hdv ⊢
  go_enter Try.func49, Try.ntmps49
  go_wp2_with fail
  have C1' : Hid _ := C1
  have U1' : Hid _ := U1
  clear c0 c1 f1 d0 C1 U1 hdv
  go_loopw [21] (fun i wr => ∃ m : Nat, i = .int .i64 m ∧ m ≤ n ∧ Ca wr L (s.upto r' m) ∧ Upd (Cb L s) w wr) (fun i wr => match i with | .int _ z => n - z.toNat | _ => 0)
  case atStart => exact ⟨0, rfl, Nat.zero_le _, C1'.out, U1'.out⟩
  case round =>
    obtain ⟨m, rfl, hm, C, U⟩ := hrel
    clear C1' U1' hw1
    have U' : Hid _ := U
    clear U
    by_cases hlt : m < n
    · have hlt' : (m : Int) < n := by omega
      obtain ⟨x, hx⟩ : ∃ x, s.xs[m]? = some x := ⟨_, List.getElem?_eq_getElem (by omega)⟩
      have I := hiv m x hx
      have e0 : wr.cell? ⟨L.cb, 0, none⟩ = some (.slice (some ⟨L.rb, 0, none⟩) n n) := by
        have := C.blk.cell1 0 _ rfl
        rw [upto_len, hn] at this; exact this
      have e1 : wr.cell? ⟨L.cb, 1, none⟩ = some (.int .u64 r') := C.blk.cell1 1 _ rfl
      obtain ⟨rc, hrl, hS⟩ := C.drew.row
      have S := hS m x (upto_get hx)
      have HM := makeRoom_any S (fun a ha => by
        obtain ⟨e, h1, h2, _⟩ := (I.qe a).1 ha
        exact ⟨e, h1, h2⟩) (c := 0) (by omega) hq
      have C' : Hid _ := C.drew
      have hS' : Hid _ := hS
      clear C hS S
      go_wp2_with fail
      go_region_with (go_at_call 51; refine HM.mono ?_; rintro e' w3 ⟨rfl, rc3, S3, K3, U3⟩)
      all_goals
        go_wp2
        go_roundw
        case rel =>
          have C3 := C'.out.shard (upto_get hx) hS'.out hrl S3 (by rw [show roomX 0 r' x.q.length x = rmX r' x from rfl, rm_ent r' I]) K3 U3
          rw [show roomX 0 r' x.q.length x = rmX r' x from rfl, upto_set hx] at C3
          exact ⟨m + 1, rfl, hlt, C3, U'.out.trans ((Upd.drew (Upd.refl _ wr)).trans (U3.mono (fun a _ ha => Cb.sub hx ha)))⟩
        case measure => simp only []; omega
    · have hlt' : (m : Int) = n := by omega
      have hmn : m = n := by omega
      subst hmn
      have C' : Hid _ := C
      clear C
      go_wp2_with fail
      go_end0
      exact ⟨rfl, C'.out, U'.out⟩
end
theorem info107 : (Try.prog.info? 107).map (fun i => (i.zero, i.size, i.bytes)) = some (some (.agg zc), 7, 56) := by kernel_rfl
theorem run_mk (n : Nat) (hn : n ≤ 64) (w : World) : (Instr.makeSlice 98 (.int .i64 (n : Int)) (.int .i64 (n : Int))).run Try.prog w = .ok (.slice (some ⟨w.heap.size, 0, none⟩) n n) (w.alloc (.cells (rc0 n).toArray 107)) := by
  have hI := info107
  cases hi : Try.prog.info? 107 with
  | none => rw [hi] at hI; cases hI
  | some i0 =>
    rw [hi] at hI
    simp only [Option.map_some, Option.some.injEq, Prod.mk.injEq] at hI
    obtain ⟨h1, h2, h3⟩ := hI
    have := run_make (P := Try.prog) w 98 107 i0 (.agg zc) Try.underlying98 hi h1 .i64 .i64 n n (by omega) (by omega) (by rw [h3]; omega) (by omega)
    rw [this, h2]
    unfold rc0
    simp
    rfl
/-- The making of the maps. -/
structure Mk (w wr : World) (n m : Nat) (st : Bool) : Prop where
  b : Blk wr (w.heap.size + 2) 101 [.slice (some ⟨w.heap.size, 0, none⟩) n n, .int .u64 0, .bool st, .map (some (w.heap.size + 1)), .int .i64 0]
  p : IM wr (w.heap.size + 1) (fun _ => none) (.map [])
  u : Upd Non w wr
  z : w.heap.size + 3 ≤ wr.heap.size
  r : ∃ (rc : List Value) (mbs : Nat → Nat), Blk wr w.heap.size 107 rc ∧ rc.length = n * 7 ∧ (∀ i, i < m → Cel rc (i * 7) (shC (mbs i) (fun _ => 0) x0) ∧ PM wr (mbs i) (fun _ => none) (.map []) ∧ w.heap.size + 3 ≤ mbs i) ∧
    (∀ i, m ≤ i → i < n → Cel rc (i * 7) zc.toList) ∧ (∀ i i', i < m → i' < m → mbs i = mbs i' → i = i')
theorem Mk.done {w wr : World} {n : Nat} {st : Bool} (h : Mk w wr n n st) : ∃ L : Lo, L.cb = w.heap.size + 2 ∧ Ca wr L { r := 0, st := st, xs := List.replicate n x0, P := [] } ∧ ∀ k, Cb L { r := 0, st := st, xs := List.replicate n x0, P := [] } k → w.heap.size ≤ k := by
  obtain ⟨rc, mbs, hB, hl, h1, _, h3⟩ := h.r
  refine ⟨⟨w.heap.size + 2, w.heap.size, w.heap.size + 1, mbs, fun _ _ => 0⟩, rfl, ⟨?_, ⟨rc, by simpa using hl, ?_⟩, ⟨.map [], ?_, ?_⟩, ?_, ?_, ?_⟩, ?_⟩
  · have := h.b
    unfold caC
    simpa using this
  · intro i x hx
    obtain ⟨rfl, hi⟩ := rep_get hx
    obtain ⟨hc, hp, _⟩ := h1 i hi
    refine ⟨hB, hc, ⟨_, hp, rfl⟩, ?_, ?_, by simp [x0], ?_, ?_, by simp [x0], by simp [x0], ?_⟩
    · intro j e hj; simp [x0] at hj
    · intro a b ha; simp [x0] at ha
    · intro j hj; simp [x0] at hj
    · intro k j hj; simp [x0] at hj
    · intro j e hj; simp [x0] at hj
  · have e1 : (fun k => (({ r := 0, st := st, xs := List.replicate n x0, P := [] } : Cs).pin k).map (fun ij : Nat × Nat => 0)) = fun _ => none := by
      funext k; unfold Cs.pin; simp
    rw [e1]; exact h.p
  · simp [Maps.size]
  · intro i i' hi hi'; simp at hi hi'; exact h3 i i' hi hi'
  · intro i hi; simp at hi; have := (h1 i hi).2.2; simp only []; omega
  · intro i i' x x' j j' hx _ hj; obtain ⟨rfl, _⟩ := rep_get hx; simp [x0] at hj
  · rintro k (e | e | ⟨i, x, hx, hs⟩)
    · simp only [] at e; omega
    · simp only [] at e; omega
    · obtain ⟨rfl, hi⟩ := rep_get hx
      rcases hs with e | e | ⟨j, hj, _⟩
      · have := (h1 i hi).2.2; simp only [] at e; omega
      · simp only [] at e; omega
      · simp [x0] at hj
theorem Mk.start (w : World) (n : Nat) (st : Bool) : Mk w (((w.alloc (.cells (rc0 n).toArray 107)).alloc (.map #[] 0)).alloc (.cells #[.slice (some ⟨w.heap.size, 0, none⟩) n n, .int .u64 0, .bool st, .map (some (w.heap.size + 1)), .int .i64 0] 101)) n 0 st := by
  have s1 : (w.alloc (.cells (rc0 n).toArray 107)).heap.size = w.heap.size + 1 := by simp
  have s2 : ((w.alloc (.cells (rc0 n).toArray 107)).alloc (.map #[] 0)).heap.size = w.heap.size + 2 := by simp
  refine ⟨?_, ?_, ((((Upd.refl _ w).alloc _).alloc _).alloc _), by simp, ⟨rc0 n, fun _ => 0, ?_, rc0_len n, ?_, fun i _ hi => rc0_cel hi, ?_⟩⟩
  · have := Blk.new ((w.alloc (.cells (rc0 n).toArray 107)).alloc (.map #[] 0)) 101 [.slice (some ⟨w.heap.size, 0, none⟩) n n, .int .u64 0, .bool st, .map (some (w.heap.size + 1)), .int .i64 0]
    rw [s2] at this; exact this
  · have := KM.made 3 kI (w.alloc (.cells (rc0 n).toArray 107))
    rw [s1] at this
    exact this.upd ((Upd.refl Non _).alloc _) (fun e => e)
  · exact ((Blk.new w 107 (rc0 n)).alloc _).alloc _
  · intro i hi; omega
  · intro i i' hi; omega
theorem Mk.step {w wr : World} {n m : Nat} {st : Bool} (h : Mk w wr n m st) (hm : m < n) : Mk w ((wr.alloc (.map #[] 0)).setCell ⟨w.heap.size, m * 7, none⟩ (.map (some wr.heap.size))) n (m + 1) st := by
  obtain ⟨rc, mbs, hB, hl, h1, h2, h3⟩ := h.r
  have hz := h.z
  have U : Upd (fun k => k = w.heap.size) wr ((wr.alloc (.map #[] 0)).setCell ⟨w.heap.size, m * 7, none⟩ (.map (some wr.heap.size))) := Upd.setCell (p := ⟨w.heap.size, m * 7, none⟩) (Upd.alloc (Upd.refl (fun k => k = w.heap.size) _) _) (fun _ => rfl) _
  have hne : ∀ i, i < m → mbs i ≠ wr.heap.size := fun i hi => by have := (h1 i hi).2.1.lt; omega
  refine ⟨h.b.upd U (by omega), h.p.upd U (by omega), ?_, ?_, ⟨rc.set (m * 7 + 0) (.map (some wr.heap.size)), fset mbs m wr.heap.size, ?_, by simpa using hl, ?_, ?_, ?_⟩⟩
  · refine ⟨U.os.trans h.u.os, U.tape.trans h.u.tape, U.output.trans h.u.output, Nat.le_trans h.u.size U.size, fun k hk hs => ?_⟩
    exact (U.block k (Nat.lt_of_lt_of_le hk h.u.size) (by omega)).trans (h.u.block k hk hs)
  · exact Nat.le_trans hz U.size
  · exact (hB.alloc _).set (m * 7) _
  · intro i hi
    by_cases c : i = m
    · subst c
      have e1 : fset mbs i wr.heap.size i = wr.heap.size := by unfold fset; rw [if_pos rfl]
      rw [e1]
      refine ⟨?_, ?_, hz⟩
      · have := (h2 i (Nat.le_refl _) hm).set 0 (.map (some wr.heap.size))
        exact this
      · refine (KM.made 9 kS wr).upd (S := fun k => k = w.heap.size) (Upd.setCell (p := ⟨w.heap.size, i * 7, none⟩) (Upd.refl (fun k => k = w.heap.size) _) (fun _ => rfl) _) ?_
        omega
    · have hi' : i < m := by omega
      have e1 : fset mbs m wr.heap.size i = mbs i := by unfold fset; rw [if_neg c]
      rw [e1]
      obtain ⟨a1, a2, a3⟩ := h1 i hi'
      refine ⟨?_, a2.upd U (by omega), a3⟩
      intro j v hv
      have hj : j < 7 := by
        have := (List.getElem?_eq_some_iff.1 hv).1
        simpa [shC] using this
      rw [List.getElem?_set_ne (by omega)]
      exact a1 j v hv
  · intro i h4 h5 j v hv
    have hj : j < 7 := (List.getElem?_eq_some_iff.1 hv).1
    rw [List.getElem?_set_ne (by omega)]
    exact h2 i (by omega) h5 j v hv
  · intro i i' hi hi' hh
    unfold fset at hh
    split at hh <;> split at hh
    · omega
    · exact absurd hh.symm (hne i' (by omega))
    · exact absurd hh (hne i (by omega))
    · exact h3 i i' (by omega) (by omega) hh
set_option maxRecDepth 100000 in
set_option maxHeartbeats 2000000 in
theorem new_any (w : World) {n : Nat} (h1 : 1 ≤ n) (h2 : n ≤ 64) {room : Nat} (hr : room < 18446744073709551616) {st : Bool} :
    Calls Try.prog 23 #[.int .i64 n, .int .u64 room, .bool st] w fun e w' => ∃ L : Lo, e = .returned (.tuple #[.pointer (some ⟨L.cb, 0, none⟩), .int .i64 0]) ∧ Ca w' L (newC n room st) ∧ Upd Non w w' ∧ ∀ k, Cb L (newC n room st) k → w.heap.size ≤ k := by
  have hmk := run_mk n h2 w
  have M0 := Mk.start w n st
  have h1' : ¬ (n : Int) < 1 := by omega
  have h2' : ¬ 64 < (n : Int) := by omega
  have hm1 : ∀ w : World, (Instr.makeMap 99 none).run Try.prog w = .ok (.map (some w.heap.size)) (w.alloc (.map #[] 0)) := fun w => @run_makeMap Try.prog _ _
  have hm2 : ∀ w : World, (Instr.makeMap 102 none).run Try.prog w = .ok (.map (some w.heap.size)) (w.alloc (.map #[] 0)) := fun w => @run_makeMap Try.prog _ _
  go_enter Try.func23, Try.ntmps23
  go_wp2_with fail
  have s1 : (w.alloc (.cells (rc0 n).toArray 107)).heap.size = w.heap.size + 1 := by simp
  clear hmk hm1
  go_loopw [27] (fun i wr => ∃ m : Nat, i = .int .i64 m ∧ m ≤ n ∧ Mk w wr n m st) (fun i wr => match i with | .int _ z => n - z.toNat | _ => 0)
  case atStart => exact ⟨0, rfl, Nat.zero_le _, M0⟩
  case round =>
    obtain ⟨m, rfl, hm, M⟩ := hrel
    clear M0 s1
    by_cases hlt : m < n
    · have hlt' : (m : Int) < n := by omega
      have M' : Hid _ := M.step hlt
      have c0 := M.b.cell1 0 _ rfl
      have hz := M.z
      obtain ⟨rc, mbs, hB, hl, _, h2, _⟩ := M.r
      have cz := hB.cell1 (m * 7) _ (h2 m (Nat.le_refl _) hlt 0 _ rfl)
      have cf := hB.frozen (m * 7)
      have c0' := (M.b.alloc (.map #[] 0)).cell1 0 _ rfl
      have cz' := (hB.alloc (.map #[] 0)).cell1 (m * 7) _ (h2 m (Nat.le_refl _) hlt 0 _ rfl)
      have cf' := (hB.alloc (.map #[] 0)).frozen (m * 7)
      clear M hB h2
      go_wp2_with fail
      go_roundw
      case rel => exact ⟨m + 1, rfl, hlt, M'.out⟩
      case measure => simp only []; omega
    · have hlt' : (m : Int) = n := by omega
      have hmn : m = n := by omega
      subst hmn
      obtain ⟨L, hcb, C, hL⟩ := M.done
      have HR := room_any C (by simpa using h1) (by simpa using h2) (fun i x hx => by obtain ⟨rfl, _⟩ := rep_get hx; exact iv0) hr
      rw [room_new] at HR
      rw [hcb] at HR
      have hu := M.u
      have hu' : Hid _ := hu
      have hz := M.z
      clear M C hm2 hu
      go_wp2_with (go_at_call 49; refine HR.mono ?_; rintro e w3 ⟨rfl, C3, U3⟩)
      have U3' : Upd Non w w3 := ⟨U3.os.trans hu'.out.os, U3.tape.trans hu'.out.tape, U3.output.trans hu'.out.output, Nat.le_trans hu'.out.size U3.size, fun k hk hs => (U3.block k (Nat.lt_of_lt_of_le hk hu'.out.size) (fun hh => by have := hL k hh; omega)).trans (hu'.out.block k hk hs)⟩
      refine bodyPost_ret (v := .tuple #[.pointer (some ⟨w.heap.size + 2, 0, none⟩), .int .i64 0]) (by simp [results, Try.results23, go_sem]) rfl ⟨L, by rw [hcb], C3, U3', ?_⟩
      intro k hk
      refine hL k ?_
      rcases hk with e | e | ⟨i, x, hx, hb⟩
      · exact .inl e
      · exact .inr (.inl e)
      · exact Cb.sub hx hb
section
variable {w : World} {L : Lo} {s : Cs}
set_option maxRecDepth 100000 in
set_option maxHeartbeats 2000000 in
theorem charge_any (h : Ca w L s) (n2 : s.xs.length ≤ 64) : Calls Try.prog 27 #[.pointer (some ⟨L.cb, 0, none⟩)] w fun e w' => e = .returned (.int .u64 (sumU s.xs)) ∧ w' = w := by
  have c0 := h.blk.cell1 0 _ rfl
  obtain ⟨rc, hrl, hS⟩ := h.row
  have hall : Hid (sumU s.xs = sumU (s.xs.take s.xs.length)) := by show sumU s.xs = _; rw [List.take_length]
  obtain ⟨n, hn⟩ : ∃ n, s.xs.length = n := ⟨_, rfl⟩
  rw [hn] at c0 n2 hall
  go_enter Try.func27, Try.ntmps27
  go_wp2_with fail
  go_loopw [3, 10] (fun a i wr => ∃ m : Nat, i = .int .i64 m ∧ a = .int .u64 (sumU (s.xs.take m)) ∧ m ≤ n ∧ wr = w) (fun a i wr => match i with | .int _ z => n - z.toNat | _ => 0)
  case atStart => exact ⟨0, rfl, rfl, Nat.zero_le _, rfl⟩
  case round =>
    obtain ⟨m, rfl, rfl, hm, hwr⟩ := hrel
    subst hwr
    by_cases hlt : m < n
    · have hlt' : (m : Int) < n := by omega
      obtain ⟨x, hx⟩ : ∃ x, s.xs[m]? = some x := ⟨_, List.getElem?_eq_getElem (by omega)⟩
      have S := hS m x hx
      have H1 := told_any S.row (o := m * 7 + 3) (S.cel 3 _ rfl) (S.cel 4 _ rfl)
      have H2 := plus_any wr (sumU (s.xs.take m)) (tolT x.us) (sumU_lt _) (tolT_lt _)
      have e1 : Hid (sumU (s.xs.take (m + 1)) = plusT (sumU (s.xs.take m)) (tolT x.us)) := sumU_snoc hx
      clear S
      generalize hA : sumU (s.xs.take m) = A at *
      generalize hT : tolT x.us = T at *
      generalize hP : plusT A T = P at *
      go_wp2_with (first
        | (go_at_call 44; refine H1.mono ?_; rintro e w1 ⟨rfl, hw⟩; have hw' := hw.symm; subst hw')
        | (go_at_call 43; refine H2.mono ?_; rintro e w1 ⟨rfl, hw⟩; have hw' := hw.symm; subst hw'))
      go_roundw
      case rel => exact ⟨m + 1, rfl, by rw [e1.out], hlt, trivial⟩
      case measure => simp only []; omega
    · have hlt' : (m : Int) = n := by omega
      have hmn : m = n := by omega
      subst hmn
      generalize sumU (s.xs.take m) = A at *
      go_wp2_with fail
      go_ret
      rw [hall.out]
      exact ⟨rfl, rfl⟩
set_option maxRecDepth 100000 in
set_option maxHeartbeats 2000000 in
theorem pinned_any (h : Ca w L s) (n2 : s.xs.length ≤ 64) : Calls Try.prog 28 #[.pointer (some ⟨L.cb, 0, none⟩)] w fun e w' => e = .returned (.int .u64 (sumP s.xs)) ∧ w' = w := by
  have c0 := h.blk.cell1 0 _ rfl
  obtain ⟨rc, hrl, hS⟩ := h.row
  have hall : Hid (sumP s.xs = sumP (s.xs.take s.xs.length)) := by show sumP s.xs = _; rw [List.take_length]
  obtain ⟨n, hn⟩ : ∃ n, s.xs.length = n := ⟨_, rfl⟩
  rw [hn] at c0 n2 hall
  go_enter Try.func28, Try.ntmps28
  go_wp2_with fail
  go_loopw [3, 10] (fun a i wr => ∃ m : Nat, i = .int .i64 m ∧ a = .int .u64 (sumP (s.xs.take m)) ∧ m ≤ n ∧ wr = w) (fun a i wr => match i with | .int _ z => n - z.toNat | _ => 0)
  case atStart => exact ⟨0, rfl, rfl, Nat.zero_le _, rfl⟩
  case round =>
    obtain ⟨m, rfl, rfl, hm, hwr⟩ := hrel
    subst hwr
    by_cases hlt : m < n
    · have hlt' : (m : Int) < n := by omega
      obtain ⟨x, hx⟩ : ∃ x, s.xs[m]? = some x := ⟨_, List.getElem?_eq_getElem (by omega)⟩
      have S := hS m x hx
      have H1 := told_any S.row (o := m * 7 + 5) (S.cel 5 _ rfl) (S.cel 6 _ rfl)
      have H2 := plus_any wr (sumP (s.xs.take m)) (tolT x.pn) (sumP_lt _) (tolT_lt _)
      have e1 : Hid (sumP (s.xs.take (m + 1)) = plusT (sumP (s.xs.take m)) (tolT x.pn)) := sumP_snoc hx
      clear S
      generalize hA : sumP (s.xs.take m) = A at *
      generalize hT : tolT x.pn = T at *
      generalize hP : plusT A T = P at *
      go_wp2_with (first
        | (go_at_call 44; refine H1.mono ?_; rintro e w1 ⟨rfl, hw⟩; have hw' := hw.symm; subst hw')
        | (go_at_call 43; refine H2.mono ?_; rintro e w1 ⟨rfl, hw⟩; have hw' := hw.symm; subst hw'))
      go_roundw
      case rel => exact ⟨m + 1, rfl, by rw [e1.out], hlt, trivial⟩
      case measure => simp only []; omega
    · have hlt' : (m : Int) = n := by omega
      have hmn : m = n := by omega
      subst hmn
      generalize sumP (s.xs.take m) = A at *
      go_wp2_with fail
      go_ret
      rw [hall.out]
      exact ⟨rfl, rfl⟩
set_option maxRecDepth 100000 in
set_option maxHeartbeats 2000000 in
theorem len_any (h : Ca w L s) (n2 : s.xs.length ≤ 64) (hct : ∀ m, m ≤ s.xs.length → sumC (s.xs.take m) < 9223372036854775808) : Calls Try.prog 29 #[.pointer (some ⟨L.cb, 0, none⟩)] w fun e w' => e = .returned (.int .i64 (sumC s.xs)) ∧ w' = w := by
  have c0 := h.blk.cell1 0 _ rfl
  obtain ⟨rc, hrl, hS⟩ := h.row
  have hall : Hid (sumC s.xs = sumC (s.xs.take s.xs.length)) := by show sumC s.xs = _; rw [List.take_length]
  obtain ⟨n, hn⟩ : ∃ n, s.xs.length = n := ⟨_, rfl⟩
  rw [hn] at c0 n2 hall hct
  go_enter Try.func29, Try.ntmps29
  go_wp2_with fail
  go_loopw [3, 10] (fun a i wr => ∃ m : Nat, i = .int .i64 m ∧ a = .int .i64 (sumC (s.xs.take m)) ∧ m ≤ n ∧ wr = w) (fun a i wr => match i with | .int _ z => n - z.toNat | _ => 0)
  case atStart => exact ⟨0, rfl, rfl, Nat.zero_le _, rfl⟩
  case round =>
    obtain ⟨m, rfl, rfl, hm, hwr⟩ := hrel
    subst hwr
    by_cases hlt : m < n
    · have hlt' : (m : Int) < n := by omega
      obtain ⟨x, hx⟩ : ∃ x, s.xs[m]? = some x := ⟨_, List.getElem?_eq_getElem (by omega)⟩
      have S := hS m x hx
      obtain ⟨D, hD, hsz⟩ := S.map
      have hlen := hD.len Try.underlying102
      rw [hsz] at hlen
      have r0 := S.row.cell1 (m * 7) _ (S.cel 0 _ rfl)
      have e1 := sumC_snoc hx
      have hb := hct (m + 1) hlt
      rw [e1] at hb
      have e1' : Hid _ := e1
      clear S e1 hct hD
      generalize hA : sumC (s.xs.take m) = A at *
      generalize hT : x.cnt = T at *
      have hb' : (A : Int) + T < 9223372036854775808 := by omega
      go_wp2_with fail
      go_roundw
      case rel => exact ⟨m + 1, rfl, by rw [e1'.out]; simp, hlt, trivial⟩
      case measure => simp only []; omega
    · have hlt' : (m : Int) = n := by omega
      have hmn : m = n := by omega
      subst hmn
      generalize sumC (s.xs.take m) = A at *
      go_wp2_with fail
      go_ret
      rw [hall.out]
      exact ⟨rfl, rfl⟩
end
end Go.Proofs.Ytlkfabejecgfgaa.S
