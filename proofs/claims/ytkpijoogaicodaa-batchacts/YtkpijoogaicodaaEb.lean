import Derived.Test.YtkpijoogaicodaaBa
import Derived.ProofKit
import Derived.OpenShut
import Derived.Deep.Slices
import Derived.ChangeSame
import Derived.Lib.SliceRun
namespace Go.Proofs.Ytkpijoogaicodaa
open Go.RowKit Go.ChangeShapes Go.WideShapes Go.ChangeAt
set_option linter.unusedVariables false
set_option linter.unusedSimpArgs false

theorem cells31 : Try.prog.cellsOf 31 = 4 := by kernel_rfl
theorem cells29 : Try.prog.cellsOf 29 = 1 := by kernel_rfl
theorem cells9 : Try.prog.cellsOf 9 = 1 := by kernel_rfl
theorem cells3 : Try.prog.cellsOf 3 = 1 := by kernel_rfl
theorem list4 {cs : List Value} (h : cs.length = 4) : ∃ c0 c1 c2 c3, cs = [c0, c1, c2, c3] := by
  match cs, h with
  | [c0, c1, c2, c3], _ => exact ⟨c0, c1, c2, c3, rfl⟩
/-- The cells of a record, as the form reads them. -/
theorem rec_open {H : Type} {enc : TypeId × Value → H} {W : World} {base : Nat} {spare : Nat → Bool} {held : Bool} {n : Nat} {cs : List Value} {y : DataW H × List MemPlace} (h : DataW.trod enc Try.prog W base spare held n 31 cs = some y) :
    ∃ r : Rec, cs = r.c ∧ 0 ≤ r.fam ∧ r.fam < 4294967296 ∧ r.key.size ≤ maxLen ∧ r.val.size ≤ maxLen := by
  obtain ⟨xs, k, hk, hxy, hl, hxl, hf⟩ := DataW.trod_struct (show Try.prog.underlying 31 = _ from Try.underlying31) h
  have h0 : DataW.trod enc Try.prog W base spare held k 29 ((cs.drop 0).take (Try.prog.cellsOf 29)) = xs[0]? := hf 0 _ rfl
  have h1 : DataW.trod enc Try.prog W base spare held k 3 ((cs.drop 1).take (Try.prog.cellsOf 3)) = xs[1]? := hf 1 _ rfl
  have h2 : DataW.trod enc Try.prog W base spare held k 9 ((cs.drop 2).take (Try.prog.cellsOf 9)) = xs[2]? := hf 2 _ rfl
  have h3 : DataW.trod enc Try.prog W base spare held k 9 ((cs.drop 3).take (Try.prog.cellsOf 9)) = xs[3]? := hf 3 _ rfl
  rw [cells31] at hl
  have hxs : xs.length = 4 := hxl
  clear hf hxy hxl h
  obtain ⟨c0, c1, c2, c3, rfl⟩ := list4 hl
  rw [List.getElem?_eq_getElem (by omega)] at h0 h1 h2 h3
  simp only [cells29, cells9, cells3, List.drop_zero, List.drop_succ_cons, List.take_succ_cons, List.take_zero] at h0 h1 h2 h3
  obtain ⟨f, e0, _, wf⟩ := DataW.trod_int Try.underlying29 h0
  obtain ⟨kd, e1, _, wk⟩ := DataW.trod_int Try.underlying3 h1
  obtain ⟨key, e2, _, wu⟩ := DataW.trod_string Try.underlying9 h2
  obtain ⟨val, e3, _, wv⟩ := DataW.trod_string Try.underlying9 h3
  simp at e0 e1 e2 e3
  subst e0 e1 e2 e3
  have hb := bounds_u32 wf
  have hb2 : f < 4294967296 := by have := hb.2; omega
  exact ⟨⟨f, kd, key, val⟩, rfl, hb.1, hb2, wu, wv⟩
instance : Inhabited Rec := ⟨⟨0, 0, ⟨#[]⟩, ⟨#[]⟩⟩⟩
/-- A slice of records, as the form reads it. -/
theorem recs_open {H : Type} {enc : TypeId × Value → H} {W : World} {held : Bool} {n : Nat} {v : Value} {x : DataW H × List MemPlace} (h : DataW.trod enc Try.prog W 0 (fun _ => true) held n 23 [v] = some x) :
    ∃ l : List Rec, RdR W v l ∧ (∀ r ∈ l, 0 ≤ r.fam ∧ r.fam < 4294967296) ∧ (l = [] ∨ ∃ es sp, x.1 = .slice es sp ∧ es.length = l.length) := by
  rcases Go.Deep.open_slice Try.underlying23 h with ⟨h0, _⟩ | ⟨a, len, cap, m, n', D, Pl, hcs, hb, hl, hm, hmm, hx, hcell⟩
  · cases h0
    exact ⟨[], .inl ⟨_, _, rfl, rfl⟩, by simp, .inl rfl⟩
  · simp only [List.cons.injEq, and_true] at hcs
    subst hcs
    simp only [if_true] at hmm
    subst hmm
    rw [cells31] at hcell
    obtain ⟨R, hR⟩ := Go.Deep.choose_lt (α := Rec) (n := len) (p := fun i r => (∀ j, j < 4 → W.cell? (a.add (i * 4 + j)) = r.c[j]?) ∧ 0 ≤ r.fam ∧ r.fam < 4294967296) (fun i hi => by
      obtain ⟨cs', h1, h2⟩ := hcell i (by omega)
      obtain ⟨_, _, hc⟩ := World.cells?_some h1
      obtain ⟨r, rfl, f0, f1, _⟩ := rec_open h2
      refine ⟨r, fun j hj => ?_, f0, f1⟩
      have := hc j hj
      rw [Go.Deep.add_add] at this
      exact this)
    refine ⟨(List.range len).map R, ?_, ?_, .inr ⟨_, _, by rw [hx], by simp⟩⟩
    · by_cases hz : len = 0
      · subst hz
        exact .inl ⟨_, _, rfl, rfl⟩
      · right
        obtain ⟨b, off, spot⟩ := a
        have hc0 := (hR 0 (by omega)).1 0 (by decide)
        have hspot : spot = none := by
          have : W.cell? ((⟨b, off, spot⟩ : Addr).add (0 * 4 + 0)) = some (.int .u32 (R 0).fam) := hc0
          simpa [Addr.add] using World.cell?_spot this
        subst hspot
        refine ⟨b, off, m, by simp, ?_, fun j hj => ?_⟩
        · have : W.cell? ((⟨b, off, none⟩ : Addr).add (0 * 4 + 0)) = some (.int .u32 (R 0).fam) := hc0
          have := World.block_lt_of_cell? W _ this
          rw [add_at] at this
          exact this
        · have hj' : j < len := by simpa using hj
          have hc := (hR j hj').1
          simp only [List.getElem_map, List.getElem_range]
          have c0 := hc 0 (by decide)
          have c1 := hc 1 (by decide)
          have c2 := hc 2 (by decide)
          have c3 := hc 3 (by decide)
          rw [add_at] at c0 c1 c2 c3
          exact ⟨c0, c1, c2, c3⟩
    · intro r hr
      obtain ⟨i, hi, rfl⟩ := List.mem_map.1 hr
      exact (hR i (List.mem_range.1 hi)).2
end Go.Proofs.Ytkpijoogaicodaa
namespace Go.Proofs.Ytkpijoogaicodaa
open Go.RowKit
set_option linter.unusedVariables false
set_option linter.unusedSimpArgs false

abbrev ptr (b : Nat) : Value := .pointer (some ⟨b, 0, none⟩)
set_option maxRecDepth 100000 in
set_option maxHeartbeats 400000 in
theorem size_any {w : World} {b : Nat} {rv mv : Value} {n : Nat} (h : Blk w b 43 (btC rv n mv)) (hn : n ≤ 5000000) :
    Calls Try.prog 21 #[ptr b] w fun e w' => e = .returned (.int .i64 (12 + (n : Int))) ∧ w' = w := by
  have c1 := h.cell1 1 _ rfl
  have hn' : (n : Int) ≤ 5000000 := by omega
  go_enter Try.func21, Try.ntmps21
  go_wp2
  go_ret
  exact ⟨rfl, rfl⟩

set_option maxRecDepth 100000 in
set_option maxHeartbeats 1000000 in
/-- join: too much. -/
theorem join_no {w : World} {b : Nat} {rv mv : Value} {n by_ m : Nat} {rs : List Rec} (h : Blk w b 43 (btC rv n mv)) (hr : w.ownsRow 0 31 4 rv rs.length (rcs rs)) (hn : n ≤ 5000000) (hb : by_ ≤ 5000000) (a : Option Addr) (c : Nat) (hm : m ≤ 1000000) (hrs : rs.length ≤ 1000000)
    (hno : 4096 < rs.length + m ∨ 4194304 < 12 + n + by_) :
    Calls Try.prog 53 #[ptr b, .int .i64 by_, .slice a m c] w fun e w' => e = .returned (.int .i64 2) ∧ w' = w := by
  have c0 := h.cell1 0 _ rfl
  obtain ⟨ra, rc, rfl⟩ := (row_rd hr).len
  clear hr
  generalize rs.length = k at *
  have HS := size_any h hn
  by_cases h1 : 4096 < (k : Int) + (m : Int)
  · go_enter Try.func53, Try.ntmps53
    go_wp2
    go_ret
    exact ⟨rfl, rfl⟩
  · have h2 : 4194304 < 12 + (n : Int) + (by_ : Int) := by omega
    have h3 : (n : Int) ≤ 5000000 := by omega
    have h4 : (by_ : Int) ≤ 5000000 := by omega
    clear hno
    go_enter Try.func53, Try.ntmps53
    go_wp2_with (go_at_call 21; refine HS.mono ?_; rintro e w' ⟨rfl, rfl⟩)
    go_ret
    exact ⟨rfl, rfl⟩
/-- What a batch's blocks are. -/
def Of (b : Nat) (rv : Value) : Nat → Prop := fun k => k = b ∨ rv.ownBlock = some k
set_option maxRecDepth 100000 in
set_option maxHeartbeats 1000000 in
/-- join: it is done. -/
theorem join_yes {w : World} {b : Nat} {rv mv sv : Value} {n by_ : Nat} {rs l : List Rec} (h : Blk w b 43 (btC rv n mv)) (hr : w.ownsRow 0 31 4 rv rs.length (rcs rs)) (hs : RdR w sv l) 
    (h1 : rs.length + l.length ≤ 4096) (h2 : 12 + n + by_ ≤ 4194304) :
    Calls Try.prog 53 #[ptr b, .int .i64 by_, sv] w fun e w' => ∃ rv', e = .returned (.int .i64 0) ∧ Blk w' b 43 (btC rv' (n + by_ : Nat) mv) ∧ w'.ownsRow 0 31 4 rv' (rs ++ l).length (rcs (rs ++ l)) ∧ Upd (Of b rv) w w' ∧ (rv'.ownBlock = rv.ownBlock ∨ rv'.ownBlock = some w.heap.size) := by
  have c0 := h.cell1 0 _ rfl
  have HS := size_any h (by omega)
  have nrb := row_ne hr h (by decide)
  obtain ⟨ra, rc, hrv⟩ := (row_rd hr).len
  obtain ⟨sa, sc, hsv⟩ := hs.len
  have i1 : ((rs.length : Int) + (l.length : Int)) ≤ 4096 := by omega
  have i2 : 12 + (n : Int) + (by_ : Int) ≤ 4194304 := by omega
  have hn48 : (rs.length + l.length) * 48 ≤ 140737488355328 := by omega
  subst hrv hsv
  go_enter Try.func53, Try.ntmps53
  go_wp2_with (first
    | (go_at_call 21; refine HS.mono ?_; rintro e w' ⟨rfl, rfl⟩)
    | (at_builtin; refine wpList_append_rows (rv := .slice ra rs.length rc) (sv := .slice sa l.length sc) rfl _ _ rfl rfl rfl hr (Nat.zero_le _) hs hn48 ?_
       intro v' w1 ho hg hloc
       obtain ⟨ra', rc', rfl⟩ := (row_rd ho).len
       have B1 := h.upd (S := fun k => Value.ownBlock (.slice ra rs.length rc) = some k) ((Upd.refl _ _).grown hg (fun k hk _ => hk)) (fun hk => nrb b hk rfl)
       have d0 := B1.cell1 0 _ rfl
       have d1 := B1.cell1 1 _ rfl
       have f0 := B1.frozen 0
       have f1 := B1.frozen 1))
  go_ret
  have nrb' := row_ne ho B1 (by decide)
  refine ⟨.slice ra' (rs ++ l).length rc', rfl, ?_, ?_, ?_, hloc⟩
  · have e : ((n + by_ : Nat) : Int) = n + by_ := by omega
    rw [e]
    have := (B1.set 0 (.slice ra' (rs ++ l).length rc')).set 1 (.int .i64 ((n : Int) + by_))
    rw [List.length_append] at this ⊢
    exact this
  · exact row_upd ho (S := fun k => k = b) (Upd.setCell (p := ⟨b, 1, none⟩) (Upd.setCell (p := ⟨b, 0, none⟩) (Upd.refl (fun k => k = b) w1) (fun _ => rfl) _) (fun _ => rfl) _) (fun k hk e => nrb' k hk e)
  · exact Upd.setCell (p := ⟨b, 1, none⟩) (Upd.setCell (p := ⟨b, 0, none⟩) ((Upd.refl _ _).grown hg (fun k hk _ => .inr hk)) (fun _ => .inl rfl) _) (fun _ => .inl rfl) _
end Go.Proofs.Ytkpijoogaicodaa
namespace Go.Proofs.Ytkpijoogaicodaa
open Go.RowKit
set_option linter.unusedVariables false
set_option linter.unusedSimpArgs false

/-- What a record's numbers and texts may be where it is written. -/
structure Fine (r : Rec) : Prop where
  f0 : 0 ≤ r.fam
  f1 : r.fam < 4294967296
  key : r.key.size ≤ 100000
  val : ¬ r.kind = 0 → r.val.size ≤ 100000
theorem fine_sz {r : Rec} (h : Fine r) : rsz r.fam r.kind r.key r.val ≤ 300000 := by
  have b1 := vs_bd r.fam
  have b2 := vs_bd r.key.size
  have b3 := vs_bd r.val.size
  have := h.key
  have hv := h.val
  unfold rsz ts
  split
  · omega
  · rename_i hk; have := hv hk; omega
theorem fine_szs {l : List Rec} (h : ∀ r ∈ l, Fine r) : szs l ≤ l.length * 300000 := by
  induction l with
  | nil => simp [szs]
  | cons r l ih =>
    have h1 := fine_sz (h r (by simp))
    have h2 := ih (fun x hx => h x (by simp [hx]))
    simp [szs]; omega
theorem szs_take (l : List Rec) (k : Nat) (h : k < l.length) : szs (l.take (k + 1)) = szs (l.take k) + rsz l[k].fam l[k].kind l[k].key l[k].val := by
  rw [List.take_succ_eq_append_getElem h, szs_app]; simp [szs]
theorem szs_take_le (l : List Rec) (k : Nat) : szs (l.take k) ≤ szs l := by
  have := szs_app (l.take k) (l.drop k)
  rw [List.take_append_drop] at this; omega
/-- The k-th record of a slice. -/
theorem RdR.at {w : World} {v : Value} {l : List Rec} (h : RdR w v l) {k : Nat} (hk : k < l.length) : ∃ b off cap, v = .slice (some ⟨b, off, none⟩) l.length cap ∧ b < w.heap.size ∧ RAt w b (off + k * 4) l[k] := by
  rcases h with ⟨a, c, rfl, rfl⟩ | ⟨b, off, cap, rfl, hb, hc⟩
  · simp at hk
  · exact ⟨b, off, cap, rfl, hb, hc k hk⟩

set_option maxRecDepth 100000 in
set_option maxHeartbeats 1000000 in
theorem recordsSize_any {w : World} {v : Value} {l : List Rec} (h : RdR w v l) (hl : l.length ≤ 5000) (hf : ∀ r ∈ l, Fine r) :
    Calls Try.prog 27 #[v] w fun e w' => e = .returned (.int .i64 (szs l)) ∧ Below w.heap.size w w' := by
  have hS := fine_szs hf
  obtain ⟨a, c, rfl⟩ := h.len
  have HL : Hid (szs l ≤ l.length * 300000) := hS
  clear hS
  go_enter Try.func27, Try.ntmps27
  go_wp2
  go_loopw [3, 8] (fun n i wr => ∃ k : Nat, k ≤ l.length ∧ i = .int .i64 k ∧ n = .int .i64 (szs (l.take k)) ∧ Below w.heap.size w wr) (fun _ i _ => l.length - (intOf i).toNat)
  case atStart => exact ⟨0, Nat.zero_le _, rfl, rfl, Below.refl _ _⟩
  case round =>
    obtain ⟨k, hk, rfl, rfl, hbel⟩ := hrel
    by_cases hlt : k < l.length
    · obtain ⟨b, off, cap, hv, hb, c0, c1, c2, c3⟩ := (h.below hbel).at hlt
      cases hv
      have HT := szs_take l k hlt
      have HF := hf _ (List.getElem_mem hlt)
      have HB := szs_take_le l (k + 1)
      generalize l[k] = r at *
      obtain ⟨f, kd, key, val⟩ := r
      dsimp only at *
      have HC := fun w => recordSize_any f kd key val w HF.f0 HF.f1 HF.key HF.val
      generalize szs (l.take k) = n at *
      have HT' : Hid (szs (l.take (k + 1)) = n + rsz f kd key val) := HT
      have hn1 : ((n : Int) + (rsz f kd key val : Int)) ≤ 2000000000 := by have := HL.out; omega
      clear HT HB
      generalize rsz f kd key val = m at *
      go_wp2_with (go_at_call 54; refine (HC _).mono ?_; rintro e w1 ⟨rfl, hb1⟩)
      go_roundw
      case rel => exact ⟨k + 1, by omega, by go_num, val_i (by rw [HT'.out]; omega), bstep (hbel.alloc hbel.size _) hb1⟩
      case measure => simp [intOf]; omega
    · obtain rfl : k = l.length := by omega
      go_wp2
      go_ret
      exact ⟨ret_ii (by rw [List.take_length]), hbel⟩

def numb (seq many : Int) : Bool := decide (seq ≤ 72057594037927935 ∧ (many = 0 ∨ many - 1 ≤ 72057594037927935 - seq))
set_option maxRecDepth 100000 in
set_option maxHeartbeats 1000000 in
theorem numbered_any (seq many : Int) (w : World) (s0 : 0 ≤ seq) (s1 : seq < 18446744073709551616) (m0 : 0 ≤ many) (m1 : many < 18446744073709551616) :
    Calls Try.prog 26 #[.int .u64 seq, .int .u64 many] w fun e w' => e = .returned (.bool (numb seq many)) ∧ w' = w := by
  by_cases h1 : seq ≤ 72057594037927935
  · by_cases h2 : many = 0
    · have e : numb seq many = true := by unfold numb; simp; omega
      rw [e]
      have t2 : (many == 0) = true := by simpa using h2
      clear e h2
      go_enter Try.func26, Try.ntmps26
      go_wp2
      go_ret
      exact ⟨rfl, rfl⟩
    · have t2 : (many == 0) = false := by simpa using h2
      by_cases h3 : many - 1 ≤ 72057594037927935 - seq
      · have e : numb seq many = true := by unfold numb; simp; omega
        rw [e]
        have q0 : 1 ≤ many := by omega
        clear e h2
        go_enter Try.func26, Try.ntmps26
        go_wp2
        go_ret
        exact ⟨rfl, rfl⟩
      · have e : numb seq many = false := by unfold numb; simp; omega
        rw [e]
        have q0 : 1 ≤ many := by omega
        clear e h2
        go_enter Try.func26, Try.ntmps26
        go_wp2
        go_ret
        exact ⟨rfl, rfl⟩
  · have e : numb seq many = false := by unfold numb; simp; omega
    rw [e]
    clear e
    go_enter Try.func26, Try.ntmps26
    go_wp2
    go_ret
    exact ⟨rfl, rfl⟩
end Go.Proofs.Ytkpijoogaicodaa
