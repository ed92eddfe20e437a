import Derived.Test.YtlkfabejecgfgaaGa
import Derived.Test.YtlkfabejecgfgaaRg
import Derived.Lib.AppendZeros
namespace Go.Proofs.Ytlkfabejecgfgaa
open Go.RowKit Go.Maps
set_option linter.unusedVariables false
set_option linter.unusedSimpArgs false
theorem nxt_get {q : List Nat} (hn : q.Nodup) {m j : Nat} (h : q[m]? = some j) : nxt q j = q[m + 1]? := by
  induction q generalizing m with
  | nil => simp at h
  | cons x r ih =>
    obtain ⟨hx, hr⟩ := List.nodup_cons.1 hn
    cases m with
    | zero =>
      simp at h; subst h
      unfold nxt
      rw [if_pos rfl]
      cases r <;> simp
    | succ m =>
      simp at h
      unfold nxt
      have hj : j ∈ r := List.mem_of_getElem? h
      rw [if_neg (fun e : x = j => hx (e ▸ hj)), ih hr h]
      simp
def sc (s : ByteArray) : List Value := [.string s]
theorem sc_k : ∀ x, (sc x).length = 1 := fun _ => rfl
theorem sc_1 : ∀ x, ∀ u ∈ sc x, u.oneCell' = true := by
  intro x u hu
  simp [sc] at hu
  subst hu
  rfl
theorem info9 : (Try.prog.info? 9).map (fun i => (i.zero, i.size, i.bytes)) = some (some (.string ⟨#[]⟩), 1, 16) := by kernel_rfl
/-- A row of strings. -/
abbrev RowS (w : World) (base : Nat) (v : Value) (l : List ByteArray) : Prop := w.ownsRow base 9 1 v l.length (cls sc l)
/-- The keys of those that wait. -/
def ksX (x : Xs) : List ByteArray := x.q.map (fun j => (x.at j).key)
section
variable {w : World} {rb o mb : Nat} {rc : List Value} {ad : Nat → Nat} {x : Xs}
set_option maxRecDepth 100000 in
set_option maxHeartbeats 2000000 in
theorem keys_any (h : Sm w rb o mb rc ad x) (hl : x.q.length ≤ 4000000000000) :
    Calls Try.prog 48 #[.pointer (some ⟨rb, o + 1, none⟩)] w fun e w' => ∃ v, e = .returned v ∧ RowS w' w.heap.size v (ksX x) ∧ Upd Non w w' := by
  have r1 := h.row.cell1 (o + 1) _ (h.cel 1 _ rfl)
  have e0 : x.q.head? = x.q[0]? := by cases x.q <;> rfl
  rw [e0] at r1
  clear e0
  go_enter Try.func48, Try.ntmps48
  go_wp2_with fail
  go_loopg [3, 4] x.q.length (fun k v p wr => ∃ m, k = x.q.length - m ∧ m ≤ x.q.length ∧ p = .pointer (pa ((x.q[m]?).map ad)) ∧ RowS wr w.heap.size v (ksX x |>.take m) ∧ Upd Non w wr)
  case atStart => exact ⟨0, by omega, Nat.zero_le _, rfl, World.ownsRow_nil _ _ _ _, Upd.refl _ _⟩
  case round =>
    obtain ⟨m, hk, hm, rfl, hR, hU⟩ := hrel
    clear r1
    cases hj : x.q[m]? with
    | none =>
      have hmm : m = x.q.length := by
        have := List.getElem?_eq_none_iff.1 hj; omega
      have hRR : Hid (RowS wr w.heap.size u3 (ksX x)) := by
        have : (ksX x).take m = ksX x := List.take_of_length_le (by unfold ksX; simp; omega)
        rw [this] at hR; exact hR
      have hU' : Hid _ := hU
      obtain ⟨va, vc, hv⟩ := row_slice hR
      clear hR hU
      subst hv
      go_wp2_with fail
      go_ret
      exact ⟨_, rfl, hRR.out, hU'.out⟩
    | some j =>
      have hjq : j ∈ x.q := List.mem_of_getElem? hj
      have hjl := h.qr j hjq
      obtain ⟨e, he⟩ : ∃ e, x.ent[j]? = some e := ⟨_, List.getElem?_eq_getElem hjl⟩
      have B := (h.ent j e he).upd hU (fun e => e)
      have c0 := B.cell1 0 _ rfl
      have c5 : wr.cell? ⟨ad j, 5, none⟩ = some (.pointer (pa ((x.q[m + 1]?).map ad))) := by
        have := B.cell1 5 _ rfl
        rw [nxt_get h.nd hj] at this; exact this
      have hml : m < x.q.length := (List.getElem?_eq_some_iff.1 hj).1
      have htl : ((ksX x).take m).length = m := by unfold ksX; simp; omega
      have B1 : Blk (wr.alloc (.cells (sc e.key).toArray 9)) wr.heap.size 9 (sc e.key) := Blk.new wr 9 _
      obtain ⟨v', w9, hr9, hR9, hU9, ho9, _⟩ := push_g (P := Try.prog) sc_k sc_1 Try.underlying52 info9 rfl (by decide) (row_upd hR ((Upd.refl Non wr).alloc (.cells (sc e.key).toArray 9)) (fun _ _ h => h)) (by have := hU.size; simp; omega) B1 52 (by rw [htl]; omega) (by rw [htl]; unfold maxLen; omega)
      have hts : (ksX x).take m ++ [e.key] = (ksX x).take (m + 1) := by
        rw [List.take_add_one]
        congr 1
        unfold ksX
        rw [List.getElem?_map, hj]
        simp [at_of he]
      rw [hts] at hR9
      have hA : Upd Non w w9 := (hU.alloc _).then hU9 (fun i hi hs => absurd (row_blk hR i hs).1 (by omega))
      have hlen : ((ksX x).take (m + 1)).length = m + 1 := by unfold ksX; simp; omega
      obtain ⟨va, vc, hv⟩ := row_slice hR9
      obtain ⟨ua, uc, hu⟩ := row_slice hR
      rw [htl] at hu
      rw [hlen] at hv
      have hR9' : Hid _ := hR9
      have hA' : Hid _ := hA
      have c5' : Blk w9 (ad j) 91 (enC e ((prv x.q j).map ad) ((x.q[m + 1]?).map ad)) := by
        have B9 := (h.ent j e he).upd hA (fun e => e)
        rw [nxt_get h.nd hj] at B9
        exact B9
      have d5 := c5'.cell1 5 _ rfl
      clear hR hR9 hA hU9 hU ho9 hts B1 B c5'
      subst hu hv
      have hr8 : (Builtin.append_ #[52, 52] 52 #[.slice ua m uc, .slice (some ⟨wr.heap.size, 0, none⟩) 1 1]).run Try.prog (wr.alloc (.cells #[.string e.key] 9)) = .ok (.slice va (m + 1) vc) w9 := hr9
      clear hr9
      go_wp2_with (at_builtin; refine Lib.wpList_append_run _ rfl _ _ _ _ rfl _ _ rfl rfl _ _ hr8 ?_)
      go_roundg (x.q.length - (m + 1))
      case measure => omega
      case rel => exact ⟨m + 1, rfl, hml, rfl, hR9'.out, hA'.out⟩
set_option maxRecDepth 100000 in
set_option maxHeartbeats 2000000 in
theorem Keys_any {w0 w : World} {L : Lo} {s : Cs} (K : K0 w0 w L s) {i : Nat} {x : Xs} (hx : s.xs[i]? = some x) (hl : x.q.length ≤ 4000000000000) :
    Calls Try.prog 22 #[.pointer (some ⟨L.cb, 0, none⟩), .int .i64 i] w fun e w' => ∃ v, e = .returned v ∧ RowS w' w.heap.size v (ksX x) ∧ Upd Non w w' := by
  obtain ⟨rc, hrl, hS⟩ := K.ca.row
  have HK := keys_any (hS i x hx) hl
  have c0 := K.ca.blk.cell1 0 _ rfl
  have hi := (List.getElem?_eq_some_iff.1 hx).1
  have n2 := K.ci.n2
  obtain ⟨n, hn⟩ : ∃ n, s.xs.length = n := ⟨_, rfl⟩
  rw [hn] at c0 hi n2
  have hi' : ¬ (n : Int) ≤ i := by omega
  have hi2 : (i : Int) < n := by omega
  go_enter Try.func22, Try.ntmps22
  go_wp2_with (go_at_call 48; refine HK.mono ?_; rintro e w2 ⟨v, rfl, hR, hU⟩; obtain ⟨va, vc, hv⟩ := row_slice hR; have hR' : Hid _ := hR; have hU' : Hid _ := hU; clear hR hU; subst hv)
  go_ret
  exact ⟨_, rfl, hR'.out, hU'.out⟩
end
end Go.Proofs.Ytlkfabejecgfgaa
