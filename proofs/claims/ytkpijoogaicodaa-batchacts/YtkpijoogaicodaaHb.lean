import Derived.Test.YtkpijoogaicodaaFa
import Derived.Test.YtkpijoogaicodaaPa
import Derived.Deep.RegionLaw
import Derived.BigQuiet
import Derived.Sort.WalkA
namespace Go.Proofs.Ytkpijoogaicodaa
open Go.RowKit
set_option linter.unusedVariables false
set_option linter.unusedSimpArgs false

set_option maxRecDepth 100000 in
set_option maxHeartbeats 1000000 in
theorem qencode_no1 (seq : Int) (a : Option Addr) (n c : Nat) (w : World) (s0 : 0 ≤ seq) (s1 : seq < 18446744073709551616) (hn : (n : Int) < 9223372036854775808) (h : numb seq n = false) :
    Calls Try.prog 9 #[.int .u64 seq, .slice a n c] w fun e w' => e = .returned (.tuple #[.slice none 0 0, .int .i64 1]) ∧ w' = w := by
  have HN := qnumb_any seq n w s0 s1 (by omega) (by omega)
  rw [h] at HN
  go_enter Try.func9, Try.ntmps9
  go_wp2_with (go_at_call 31; refine HN.mono ?_; rintro e w' ⟨rfl, rfl⟩)
  go_ret2
  exact ⟨rfl, rfl⟩
set_option maxRecDepth 100000 in
set_option maxHeartbeats 1000000 in
theorem qencode_no2 (seq : Int) (a : Option Addr) (n c : Nat) (w : World) (s0 : 0 ≤ seq) (s1 : seq < 18446744073709551616) (hn : (n : Int) < 9223372036854775808) (h : numb seq n = true) (hl : 4096 < (n : Int)) :
    Calls Try.prog 9 #[.int .u64 seq, .slice a n c] w fun e w' => e = .returned (.tuple #[.slice none 0 0, .int .i64 2]) ∧ w' = w := by
  have HN := qnumb_any seq n w s0 s1 (by omega) (by omega)
  rw [h] at HN
  go_enter Try.func9, Try.ntmps9
  go_wp2_with (go_at_call 31; refine HN.mono ?_; rintro e w' ⟨rfl, rfl⟩)
  go_ret2
  exact ⟨rfl, rfl⟩

set_option maxRecDepth 100000 in
set_option maxHeartbeats 1000000 in
/-- The records with no value where they tell of none. -/
theorem plain_any {w : World} {v : Value} {l : List Rec} (h : RdR w v l) (hl : l.length ≤ 5000) :
    Calls Try.prog 15 #[v] w fun e w' => ∃ v', e = .returned v' ∧ RdR w' v' (l.map plainR) ∧ Below w.heap.size w w' := by
  obtain ⟨a, c, rfl⟩ := h.len
  have H0 : (w.alloc (.cells #[] 31)).ownsRow 0 31 4 (.slice (some ⟨w.heap.size, 0, none⟩) 0 0) (([] : List Rec).map plainR).length (rcs (([] : List Rec).map plainR)) :=
    World.ownsRow_made (base := 0) (e := 31) (size := 4) w #[] 0 (Nat.zero_le _) (by unfold maxLen; omega) rfl
  go_enter Try.func15, Try.ntmps15
  go_wp2
  go_loopw [3, 4] (fun lv i wr => ∃ (k : Nat), k ≤ l.length ∧ i = .int .i64 k ∧ wr.ownsRow 0 31 4 lv ((l.take k).map plainR).length (rcs ((l.take k).map plainR)) ∧ Below w.heap.size w wr ∧ New w.heap.size lv) (fun _ i _ => l.length - (intOf i).toNat)
  case atStart => exact ⟨0, Nat.zero_le _, rfl, H0, (Below.refl _ _).alloc (Nat.le_refl _) _, fun k hk => by simp [Value.ownBlock] at hk; omega⟩
  case round =>
    clear H0
    obtain ⟨k, hk, rfl, hrow, hbel, hnew⟩ := hrel
    by_cases hlt : k < l.length
    · obtain ⟨b, off, cap, hv, hb, c0, c1, c2, c3⟩ := (h.below hbel).at hlt
      cases hv
      have HT : Hid ((l.take (k + 1)).map plainR = (l.take k).map plainR ++ [plainR l[k]]) := by show _ = _; rw [List.take_succ_eq_append_getElem hlt, List.map_append]; rfl
      have HC := fun w => qplain_any l[k] w
      have hlen : ((l.take k).map plainR).length ≤ k := by simp; omega
      generalize (l.take k).map plainR = rs at *
      generalize plainR l[k] = p at *
      generalize l[k] = r at *
      obtain ⟨f, kd, key, val⟩ := r
      obtain ⟨f', kd', key', val'⟩ := p
      dsimp only at *
      have hlk : (k : Int) < (l.length : Int) := by omega
      have hn48 : (rs.length + [(⟨f', kd', key', val'⟩ : Rec)].length) * 48 ≤ 140737488355328 := by simp; omega
      go_wp2_with (first
        | (at_builtin
           refine wpList_append_rows (rs := rs) (l := [⟨f', kd', key', val'⟩]) rfl _ _ rfl rfl rfl (row1.alloc _) (Nat.zero_le _) (one_rd' _ _ (by simp) ⟨f', kd', key', val'⟩) hn48 ?_
           intro v' w3 ho3 hg3 hl3)
        | (go_at_call 41; refine (HC _).mono ?_; rintro e w1 ⟨rfl, hb1⟩; have row1 := row_upd hrow (Upd.ofBelow hb1) (S := Non) (fun _ _ hh => hh); have bel1 := bstep hbel hb1))
      go_roundw
      case rel => exact ⟨k + 1, by omega, by go_num, by rw [HT.out]; exact ho3, Upd.bel (bel1.alloc bel1.size _) ((Upd.refl _ _).grown hg3 (fun k hk _ => hk)) hnew, hnew.step (bel1.alloc bel1.size _).size (by
          rcases hl3 with e | e
          · exact .inl e
          · exact .inr fun j hj => by rw [e] at hj; cases hj; exact Nat.le_refl _)⟩
      case measure => simp [intOf]; omega
    · obtain rfl : k = l.length := by omega
      rw [List.take_length] at hrow
      go_wp2
      go_ret
      exact ⟨_, rfl, row_rd hrow, hbel⟩
end Go.Proofs.Ytkpijoogaicodaa
namespace Go.Proofs.Ytkpijoogaicodaa
open Go.RowKit
set_option linter.unusedVariables false
set_option linter.unusedSimpArgs false
/-- A row of families. -/
def uc (l : List Int) : List Value := l.map fun (n : Int) => .int .u32 n
theorem uc_len (l : List Int) : (uc l).length = l.length := by simp [uc]
theorem info29 : (Try.prog.info? 29).map (fun i => (i.zero, i.size, i.bytes)) = some (some (.int .u32 0), 1, 4) := by kernel_rfl
theorem urow_form {w : World} {base : Nat} {e : TypeId} {size : Nat} {v : Value} {n : Nat} {xs : List Value} (h : w.ownsRow base e size v n xs) : ∃ a c, v = .slice a n c ∧ n ≤ c := by
  rcases h.2 with ⟨rfl, rfl⟩ | ⟨g, cap, cur, rfl, _, _, hle, _⟩
  · exact ⟨_, _, rfl, Nat.le_refl _⟩
  · exact ⟨_, _, rfl, hle⟩
theorem umany_run {w : World} {N : Nat} {v : Value} {T : List Int} (ty : TypeId) (hown : w.ownsRow N 29 1 v T.length (uc T)) {p : Addr} {cap : Nat} {ys : List Int} (hc : ∀ (j : Nat) (y : Int), ys[j]? = some y → w.cell? (p.add j) = some (.int .u32 y)) (hl : T.length + ys.length ≤ 1000000000000) (hN : N ≤ w.heap.size) :
    ∃ av cv w', (Builtin.append_ #[77, 77] ty #[v, .slice (some p) ys.length cap]).run Try.prog w = .ok (.slice av (T.length + ys.length) cv) w' ∧ w'.ownsRow N 29 1 (.slice av (T.length + ys.length) cv) (T.length + ys.length) (uc (T ++ ys)) ∧ w.grownBy w' v.ownBlock ∧ (Value.ownBlock (.slice av (T.length + ys.length) cv) = v.ownBlock ∨ Value.ownBlock (.slice av (T.length + ys.length) cv) = some w.heap.size) := by
  obtain ⟨i0, hi, hz0, hz1, hz2⟩ := info_parts info29
  have e := run_append_own_at (P := Try.prog) w N 77 ty 29 i0 (.int .u32 0) 1 4 Try.underlying77 hi hz0 hz1 hz2 rfl (by decide) v T.length (uc T) hown p ys.length cap (uc ys) (by simp [uc]) (by
    intro j u hj
    unfold uc at hj
    rw [List.getElem?_map] at hj
    cases hy : ys[j]? with
    | none => rw [hy] at hj; cases hj
    | some y =>
      rw [hy] at hj
      cases hj
      exact hc j y hy) (by simp [uc, Value.oneCell']) (by unfold maxLen; omega) (by omega) hN
  obtain ⟨v', w', hr, h2, h3, h4, h5⟩ := e
  have e1 : uc T ++ uc ys = uc (T ++ ys) := by simp [uc]
  rw [e1] at h2
  obtain ⟨av, cv, rfl, _⟩ := urow_form h2
  exact ⟨av, cv, w', hr, h2, h3, h5⟩
/-- append of families, at a step of a region that draws its order. -/
theorem step_umany {ops : Array Oper} {o : Oper} {a : Act} {w : World} {K : Act → World → Prop} {Q : Exit → Act → World → Prop} {Ex : Prop} (hgd : o.guard = none) {d : Nat} (hd : o.dst = some d) (s x : Operand)
    (ho : o.op = .call { callee := .builtin .append, args := #[s, x], argTypes := #[77, 77] }) {N : Nat} {v : Value} {T : List Int} (hs : a.eval s = v) (hown : w.ownsRow N 29 1 v T.length (uc T)) {p : Addr} {cap : Nat} {ys : List Int} (hx : a.eval x = .slice (some p) ys.length cap) (hc : ∀ (j : Nat) (y : Int), ys[j]? = some y → w.cell? (p.add j) = some (.int .u32 y)) (hl : T.length + ys.length ≤ 1000000000000) (hN : N ≤ w.heap.size)
    (h : ∀ av cv w', w'.ownsRow N 29 1 (.slice av (T.length + ys.length) cv) (T.length + ys.length) (uc (T ++ ys)) → w.grownBy w' v.ownBlock → (Value.ownBlock (.slice av (T.length + ys.length) cv) = v.ownBlock ∨ Value.ownBlock (.slice av (T.length + ys.length) cv) = some w.heap.size) → K (a.put (some d) (.slice av (T.length + ys.length) cv)) w') :
    if Region.wanted o (yielded ops a.tmps) = true then Oper.wp Try.prog o a w K Q else Ex := by
  have hw : Region.wanted o (yielded ops a.tmps) = true := by simp [Region.wanted, hgd]
  rw [if_pos hw]
  obtain ⟨av, cv, w', hr, h2, h3, h5⟩ := umany_run o.type hown hc hl hN (cap := cap)
  unfold Oper.wp execOp
  simp only [ho, resolve, invoke, builtin, Sem.run_bind, Sem.run_pure, Result.andThen_ok, List.map_toArray, List.map_cons, List.map_nil, hs, hx, hr]
  show K (a.put o.dst _) w'
  rw [hd]
  exact h av cv w' h2 h3 h5
/-- A family goes to its place, if it is not there. -/
def plc (o : List Int) (x : Int) : Nat := (o.takeWhile fun y => decide (y < x)).length
def insU (o : List Int) (x : Int) : List Int := if o[plc o x]? = some x then o else o.take (plc o x) ++ [x] ++ o.drop (plc o x)
def famI (l : List Rec) : List Int := l.foldl (fun o r => insU o r.fam) []
theorem famI_succ (l : List Rec) (k : Nat) (h : k < l.length) : famI (l.take (k + 1)) = insU (famI (l.take k)) l[k].fam := by
  unfold famI
  rw [List.take_succ_eq_append_getElem h, List.foldl_append]
  rfl
theorem plc_le (o : List Int) (x : Int) : plc o x ≤ o.length := (List.takeWhile_prefix _).length_le
theorem insU_len (o : List Int) (x : Int) : (insU o x).length ≤ o.length + 1 := by
  unfold insU
  have := plc_le o x
  split
  · omega
  · simp; omega
theorem famI_len (l : List Rec) : (famI l).length ≤ l.length := by
  have H : ∀ (l : List Rec) (o : List Int), (l.foldl (fun o r => insU o r.fam) o).length ≤ o.length + l.length := by
    intro l
    induction l with
    | nil => intro o; simp
    | cons r l ih =>
      intro o
      have h1 := ih (insU o r.fam)
      have h2 := insU_len o r.fam
      simp only [List.foldl_cons, List.length_cons]
      omega
  simpa [famI] using H l []
/-- How far one has come. -/
theorem plc_go {o : List Int} {x : Int} {k : Nat} (h : (o.take k).all (fun y => decide (y < x)) = true) (hk : k < o.length) (hx : o[k] < x) : (o.take (k + 1)).all (fun y => decide (y < x)) = true := by
  rw [List.take_succ_eq_append_getElem hk, List.all_append, h]
  simp [hx]
theorem plc_end {o : List Int} {x : Int} {k : Nat} (h : (o.take k).all (fun y => decide (y < x)) = true) (hk : k ≤ o.length) (hx : ∀ h : k < o.length, ¬ o[k] < x) : plc o x = k := by
  unfold plc
  induction o generalizing k with
  | nil => simp at hk; simp [hk]
  | cons y o ih =>
    cases k with
    | zero =>
      have := hx (by simp)
      simp at this
      rw [List.takeWhile_cons, if_neg (by simpa using this)]
      rfl
    | succ k =>
      simp only [List.take_succ_cons, List.all_cons, Bool.and_eq_true] at h
      rw [List.takeWhile_cons, if_pos h.1]
      simp only [List.length_cons]
      have := ih h.2 (by simpa using hk) (fun h' => by have := hx (by simpa using h'); simpa using this)
      omega
end Go.Proofs.Ytkpijoogaicodaa
namespace Go.Proofs.Ytkpijoogaicodaa
open Go.RowKit Go.Sort
set_option linter.unusedVariables false
set_option linter.unusedSimpArgs false
set_option maxRecDepth 100000 in
/-- No number of a kind of ints is 'not a number'. -/
theorem isnan_any (x : Int) (w : World) : Calls Try.prog 99 #[.int .u32 x] w fun e w' => e = .returned (.bool false) ∧ w' = w := by
  go_enter Try.func99, Try.ntmps99
  go_wp2
  go_ret
  exact ⟨rfl, rfl⟩
set_option maxRecDepth 100000 in
theorem less_any (x y : Int) (w : World) : Calls Try.prog 88 #[.int .u32 x, .int .u32 y] w fun e w' => e = .returned (.bool (ltInt x y)) ∧ w' = w := by
  go_enter Try.func88, Try.ntmps88
  go_wp2_with (go_at_call 99; refine (isnan_any x w).mono ?_; rintro e w' ⟨rfl, rfl⟩)
  go_ret
  exact ⟨rfl, rfl⟩
/-- The row of N families at a place reads d; but for it and the draws the world is w. -/
structure Rw (w : World) (blk off N : Nat) (d : Array Int) (wr : World) : Prop where
  size : d.size = N
  is : ∃ n, wr = putRow (Value.int .u32) (Sort.ahead w n) blk off d
section
variable {w wr : World} {blk off N : Nat} {d : Array Int}
theorem Rw.start (h : Holds (Value.int .u32) w blk off d) : Rw w blk off d.size d w := ⟨rfl, 0, (putRow_self _ _ _ _ _ h).symm⟩
theorem Rw.cell (r : Rw w blk off N d wr) {d0 : Array Int} (h : Holds (Value.int .u32) w blk off d0) (hN : d0.size = N) (t : Nat) (ht : t < N) : wr.cell? ⟨blk, off + t, none⟩ = some (.int .u32 d[t]!) := by
  obtain ⟨hs, n, rfl⟩ := r
  exact cell?_putRow _ _ _ _ d0 d (holds_ahead _ _ _ _ _ _ h) (by omega) t (by omega)
theorem Rw.froz (r : Rw w blk off N d wr) {d0 : Array Int} (h : Holds (Value.int .u32) w blk off d0) (hN : d0.size = N) (t : Nat) (ht : t < N) : wr.frozen? ⟨blk, off + t, none⟩ = false := by
  obtain ⟨hs, n, rfl⟩ := r
  rw [frozen?_putRow]
  exact ((holds_ahead _ _ n _ _ _ h) t (by omega)).2
theorem Rw.drawn (r : Rw w blk off N d wr) (q : Nat) : Rw w blk off N d (wr.drewN q) := by
  obtain ⟨hs, n, rfl⟩ := r
  exact ⟨hs, n + q, putRow_drewN _ _ _ _ _ _ _⟩
theorem Rw.swap (r : Rw w blk off N d wr) (q : Nat) {j k : Nat} (hj : j < N) (hk : k < N) :
    Rw w blk off N (swp d j k) (((wr.drewN q).setCell ⟨blk, off + j, none⟩ (.int .u32 d[k]!)).setCell ⟨blk, off + k, none⟩ (.int .u32 d[j]!)) := by
  obtain ⟨hs, n, rfl⟩ := r
  exact ⟨by rw [size_swp]; exact hs, n + q, swap_worldA (Value.int .u32) w n q blk off d j k (by omega) (by omega)⟩
end
end Go.Proofs.Ytkpijoogaicodaa
namespace Go.Proofs.Ytkpijoogaicodaa
open Go.RowKit Go.Sort
set_option linter.unusedVariables false
set_option linter.unusedSimpArgs false
set_option maxRecDepth 100000 in
set_option maxHeartbeats 4000000 in
theorem ins_any (blk off cap a b : Nat) (d : Array Int) (w : World) (h : Holds (Value.int .u32) w blk off d) (hab : a ≤ b) (hb : b ≤ d.size) (hsz : d.size < 4611686018427387904) :
    Calls Try.prog 82 #[.slice (some ⟨blk, off, none⟩) d.size cap, .int .i64 a, .int .i64 b] w fun e w' => e = .returned (.tuple #[]) ∧ Rw w blk off d.size (Sort.insertionSort ltInt d a b) w' := by
  obtain ⟨N, hN⟩ : ∃ N, N = d.size := ⟨_, rfl⟩
  have h0 : Hid (Holds (Value.int .u32) w blk off d) := h
  have r0 : Rw w blk off N d w := hN ▸ Rw.start h
  rw [← hN] at hb hsz ⊢
  clear h
  go_enter Try.func82, Try.ntmps82
  go_wp2
  go_loopw [6] (fun vi wr => ∃ (i : Nat) (x : Array Int), vi = .int .i64 i ∧ a < i ∧ i ≤ b + 1 ∧ Hid (Rw w blk off N x wr ∧ insOuter ltInt a b i x = Sort.insertionSort ltInt d a b)) (fun vi _ => b + 1 - (intOf vi).toNat)
  case atStart => exact ⟨a + 1, d, by go_num, by omega, by omega, r0, rfl⟩
  case round =>
    obtain ⟨i, x, rfl, hai, hib, hx⟩ := hrel
    go_wp2
    · go_loopw [7] (fun vj wr2 => ∃ (j : Nat) (y : Array Int), vj = .int .i64 j ∧ a ≤ j ∧ j ≤ i ∧ Hid (Rw w blk off N y wr2 ∧ insInner ltInt a j y = insInner ltInt a i x)) (fun vj _ => (intOf vj).toNat)
      case atStart => exact ⟨i, x, rfl, by omega, Nat.le_refl _, hx.out.1, rfl⟩
      case round =>
        obtain ⟨j, y, rfl, haj, hji, hy⟩ := hrel
        have hib2 : i < b := by assumption
        obtain ⟨G, hG⟩ : ∃ G : Nat → Int, Hid (∀ t, G t = y[t]!) := ⟨fun t => y[t]!, fun _ => rfl⟩
        have hc : ∀ t, t < N → wr.cell? ⟨blk, off + t, none⟩ = some (.int .u32 (G t)) := fun t ht => by rw [hG.out]; exact hy.out.1.cell h0.out hN.symm t ht
        have hf : ∀ t, t < N → wr.frozen? ⟨blk, off + t, none⟩ = false := hy.out.1.froz h0.out hN.symm
        have ho : Hid ((j ≤ a ∨ ltInt (G j) (G (j - 1)) = false) → ∀ q, ∃ (i' : Nat) (x' : Array Int), Value.int .i64 ((i : Int) + 1) = .int .i64 i' ∧ a < i' ∧ i' ≤ b + 1 ∧ Hid (Rw w blk off N x' (wr.drewN q) ∧ insOuter ltInt a b i' x' = Sort.insertionSort ltInt d a b)) := fun hs q => by
          rw [hG.out, hG.out] at hs
          refine ⟨i + 1, y, by go_num, by omega, by omega, hy.out.1.drawn q, ?_⟩
          rw [← hx.out.2, insOuter_go _ _ _ _ _ hib2, ← hy.out.2, insInner_stop _ _ _ _ hs]
        go_wp2
        by_cases hja : a < j
        · go_quiet (first | (go_at_call 88; refine Calls.quiet_of_same (less_any _ _ _)))
          go_wp2
          · have hl : ltInt (G j) (G (j - 1)) = true := by assumption
            go_region
            all_goals go_wp2
            go_roundw
            case rel =>
              refine ⟨j - 1, swp y j (j - 1), by congr 1; omega, by omega, by omega, ?_, ?_⟩
              · have := hy.out.1.swap (nq + 1) (j := j) (k := j - 1) (by omega) (by omega)
                rw [← hG.out, ← hG.out] at this
                exact this
              · rw [← hy.out.2, insInner_go ltInt a j y hja (by rw [← hG.out, ← hG.out]; exact hl)]
            case measure => simp [intOf]; omega
          · have hl : ltInt (G j) (G (j - 1)) = false := by assumption
            go_roundw
            case rel => exact ho.out (Or.inr hl) nq
            case measure => simp [intOf]; omega
        · go_quiet (first | (go_at_call 88; refine Calls.quiet_of_same (less_any _ _ _)))
          go_wp2
          go_roundw
          case rel => exact ho.out (Or.inl (by omega)) nq
          case measure => simp [intOf]; omega
    · have hge : ¬ i < b := by assumption
      go_end0
      have e := hx.out.2
      rw [insOuter_stop _ _ _ _ _ hge] at e
      exact ⟨rfl, e ▸ hx.out.1⟩
end Go.Proofs.Ytkpijoogaicodaa
