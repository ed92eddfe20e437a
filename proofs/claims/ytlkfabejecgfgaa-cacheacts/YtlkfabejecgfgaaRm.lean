/-
  The reference's Put: what follows the new item.
-/
import Derived.Test.YtlkfabejecgfgaaRl
namespace Go.Proofs.Ytlkfabejecgfgaa
open Go.RowKit Go.Maps
set_option linter.unusedVariables false
set_option linter.unusedSimpArgs false
section
variable {w : World} {R : Lr} {room : Nat} {vs : List Vw} {pv : Value} {s : Cs}
theorem bds_snoc (R : Lr) (i : Nat) (l : List Nat) (j : Nat) : bds R i (l ++ [j]) = bds R i l ++ [some (R.bd i j)] := by unfold bds; simp
set_option maxHeartbeats 1000000 in
theorem put_tail (h : Rx w R room vs pv s) (c : Ci s) {i : Nat} {x : Xs} {v : Vw} (hx : s.xs[i]? = some x) (hv : vs[i]? = some v) {y : Xs} {vy : Vw} {w3 : World} (F3 : Rf w3 R s.xs.length room s.st (vs.set i vy) pv s.P) (U3 : Upd (Rb R vs pv) w w3)
    (hye : y.ent = x.ent) (Vy : Vx vy y) {kk : ByteArray} {z : Int} {ch : Nat} (h0 : y.f kk.data.toList = none) {z1 : Xs} (h1 : z1.ent = y.ent ++ [⟨kk, .int .u64 z, ch, 1⟩]) (h2 : z1.f = fput y.f kk.data.toList (some y.ent.length)) (h3 : z1.q = y.q) (Sz : Su z1)
    (hP : s.P.length + 1 ≤ 4000000000000) (hb : vy.ll.length ≤ 4000000000000) {wm : World} (hwm : wm = w3.alloc (.cells #[.string kk, .int .u64 z, .int .u64 ch, .bool true, .int .i64 0] 84)) :
    ∃ (lc : List Value) (la : Option Addr) (nL lcp : Nat) (L0 : List (Option Nat)), lc[i]? = some (.slice la nL lcp) ∧ (∀ W, Upd Non wm W → Blk W R.lb 68 lc ∧ Blk W R.cb 70 (rfC R s.xs.length room s.st pv)) ∧ RowQ wm 0 (.slice la nL lcp) L0 ∧ L0.length ≤ 4000000000000 ∧
      ∀ (W : World) (u : Value), Upd Non wm W → RowQ W wm.heap.size u ([] ++ L0 ++ [some w3.heap.size]) →
        Calls Try.prog 61 #[.pointer (some ⟨R.cb, 0, none⟩), .pointer (some ⟨w3.heap.size, 0, none⟩)] (W.setCell ⟨R.lb, i, none⟩ u) fun r w' => r = .returned (.int .i64 ((s.P.length : Int) + 1)) ∧ Ro w R vs pv w' room { s with xs := s.xs.set i z1, P := s.P ++ [some (i, y.ent.length)] } := by
  have hi : i < s.xs.length := (List.getElem?_eq_some_iff.1 hx).1
  have hvl : v.ent.length = x.ent.length := by rw [(h.vx i v x hv hx).e]
  have hvyl : vy.ent.length = v.ent.length := by rw [Vy.e, hye, hvl]
  have hvy : (vs.set i vy)[i]? = some vy := by rw [vset_get hv, if_pos rfl]
  obtain ⟨F4, B4⟩ := F3.addItem hvy (fun j hj => by
    obtain ⟨x', e1, e2⟩ := c.pr i j hj
    rw [hx] at e1; cases e1
    omega) ⟨kk, .int .u64 z, ch, 0⟩
  have hwm' : w3.alloc (.cells (itC ⟨kk, .int .u64 z, ch, 0⟩ true).toArray 84) = wm := hwm.symm
  rw [hwm'] at F4
  rw [List.set_set] at F4 B4
  obtain ⟨N, hN⟩ : ∃ N, vy.ent.length = N := ⟨_, rfl⟩
  have hyN : y.ent.length = N := by rw [← hN, Vy.e]
  have hU3m : Upd Non w3 wm := by rw [hwm]; exact (Upd.refl Non w3).alloc _
  rw [hN] at F4 B4
  have hBB : (R.add i N w3.heap.size).bd i N = w3.heap.size := by unfold Lr.add; simp
  obtain ⟨R2, hR2⟩ : ∃ R2, R.add i N w3.heap.size = R2 := ⟨_, rfl⟩
  have hcb : R2.cb = R.cb := by rw [← hR2]; rfl
  have hlb : R2.lb = R.lb := by rw [← hR2]; rfl
  have hrf : rfC R2 s.xs.length room s.st pv = rfC R s.xs.length room s.st pv := by rw [← hR2]; rfl
  rw [hR2] at F4 B4 hBB
  have hv4 : (vs.set i { vy with ent := vy.ent ++ [⟨kk, .int .u64 z, ch, 0⟩], inn := fset vy.inn N true })[i]? = some { vy with ent := vy.ent ++ [⟨kk, .int .u64 z, ch, 0⟩], inn := fset vy.inn N true } := by rw [vset_get hv, if_pos rfl]
  obtain ⟨lc, lB, ll, lcc⟩ := F4.lr.ex
  obtain ⟨u, hu, rL, _⟩ := lcc i hi
  rw [vws_get hv4] at rL
  obtain ⟨la, lcp, hla⟩ := rowq_len rL
  subst hla
  refine ⟨lc, la, _, lcp, _, hu, fun W hW => ⟨?_, ?_⟩, rL, by unfold bds; simpa using hb, fun W u hW hu' => ?_⟩
  · rw [← hlb]; exact lB.upd hW (fun e => e)
  · rw [← hcb, ← hrf]; exact F4.blk.upd hW (fun e => e)
  · have FW := F4.grow hW
    have p2 : ∀ k, u.ownBlock = some k → pv.ownBlock ≠ some k := fun k hk hk' => by
      have a1 := (row_blk hu' k hk).1
      have a2 := (row_blk F4.pr k hk').2
      omega
    have hrow : RowQ W 0 u (bds R2 i (vy.ll ++ [N])) := by
      rw [bds_snoc, hBB]
      have := rowq_base hu'
      simpa using this
    obtain ⟨F5, U5⟩ := FW.setL hv4 hrow p2 (fun a ha => by
      simp only [List.length_append, List.length_cons, List.length_nil]
      rcases List.mem_append.1 ha with ha | ha
      · have := (F4.llr i _ hv4).1 a ha
        simpa using this
      · simp at ha; omega)
    rw [hlb] at F5 U5
    rw [List.set_set] at F5
    have hvz : (vs.set i { vy with ent := vy.ent ++ [⟨kk, .int .u64 z, ch, 0⟩], inn := fset vy.inn N true, ll := vy.ll ++ [N] })[i]? = some { vy with ent := vy.ent ++ [⟨kk, .int .u64 z, ch, 0⟩], inn := fset vy.inn N true, ll := vy.ll ++ [N] } := by rw [vset_get hv, if_pos rfl]
    have HP := pins_any F5 hvz (j := N) (e := ⟨kk, .int .u64 z, ch, 0⟩) (by rw [← hN]; simp) (by simp) (by omega)
    rw [hBB, hcb] at HP
    refine HP.mono ?_
    rintro r w6 ⟨rfl, pv6, F6, U6, ho6⟩
    refine ⟨rfl, ?_⟩
    rw [List.set_set] at F6
    have hset : (vy.ent ++ [(⟨kk, .int .u64 z, ch, 0⟩ : En)]).set N ⟨kk, .int .u64 z, ch, 0 + 1⟩ = vy.ent ++ [⟨kk, .int .u64 z, ch, 1⟩] := by rw [← hN]; simp
    simp only [hset] at F6
    have VP := Vy.put h0 h1 h2 h3
    rw [hN] at VP
    -- the blocks
    have Q1 : ∀ {v' : Vw} {k : Nat}, v'.ent.length = N + 1 → Rb R2 (vs.set i v') pv k → Rb R vs pv k ∨ w3.heap.size ≤ k := by
      intro v' k hv' hk
      have e1 : Rb R2 (vs.set i { vy with ent := vy.ent ++ [⟨kk, .int .u64 z, ch, 0⟩], inn := fset vy.inn N true }) pv k := by
        refine Rb.set (v' := v') hv4 (by simp [hv', hN]) ?_
        rw [List.set_set]; exact hk
      rcases B4 k e1 with e2 | e2
      · exact .inl (Rb.set hv hvyl e2)
      · exact .inr e2
    refine ⟨R2, vs.set i { ent := vy.ent ++ [⟨kk, .int .u64 z, ch, 1⟩], inn := fset vy.inn N true, ll := vy.ll ++ [N], wl := vy.wl }, pv6, hcb, ?_, ?_, ?_⟩
    · rw [hyN]
      exact h.setx hx hv F6 VP Sz (by rw [List.length_append]; simp only [List.length_cons, List.length_nil]; omega)
    · have s1 := U3.size
      have a1 : Upd (Rb R vs pv) w (W.setCell ⟨R.lb, i, none⟩ u) := (U3.trans ((hU3m.trans hW).mono (fun k _ hk => hk.elim))).then U5 (fun k hk he => .inr (.inl he))
      refine a1.then U6 (fun k hk he => ?_)
      rcases Q1 (by simp [hN]) he with e | e
      · exact e
      · omega
    · intro k hk
      have s1 := U3.size
      have s2 := (hU3m.trans hW).size
      have s3 := U5.size
      have e0 : Rb R2 (vs.set i { ent := vy.ent ++ [⟨kk, .int .u64 z, ch, 1⟩], inn := fset vy.inn N true, ll := vy.ll ++ [N], wl := vy.wl }) pv k ∨ w.heap.size ≤ k := by
        rcases hk with e | e | e | e | e
        · exact .inl (.inl e)
        · exact .inl (.inr (.inl e))
        · exact .inl (.inr (.inr (.inl e)))
        · rcases ho6 with ho | ho
          · exact .inl (.inr (.inr (.inr (.inl (by rw [← ho]; exact e)))))
          · have := ho k e
            exact .inr (by omega)
        · exact .inl (.inr (.inr (.inr (.inr e))))
      rcases e0 with e | e
      · rcases Q1 (by simp [hN]) e with e' | e'
        · exact .inl e'
        · exact .inr (by omega)
      · exact .inr e
end
end Go.Proofs.Ytlkfabejecgfgaa
