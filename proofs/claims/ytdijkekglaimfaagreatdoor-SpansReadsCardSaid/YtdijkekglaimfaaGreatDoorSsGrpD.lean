/- No step of the machine takes a draw back: plain facts on the model. -/
import Derived.Test.YtdijkekglaimfaaGreatDoorProg
import Derived.StepT
import Derived.Calls
import Derived.Test.YtdijkekglaimfaaGreatDoorSsGrpA
import Derived.Test.YtdijkekglaimfaaGreatDoorShelf2
import Derived.Test.YtdijkekglaimfaaGreatDoorSsGrpB
import Derived.Test.YtdijkekglaimfaaGreatDoorSsGrpC
import Derived.Shelf.SlSortCmp.NoneTotal
namespace Go.Proofs.YtdijkekglaimfaaGreatDoor.Dr
open Go

def rw_ {α : Type} : Result α → World
  | .ok _ w => w
  | .halt _ w => w
theorem ask_drawn {α : Type} : ∀ (a : Ask α) (w : World), w.drawn ≤ (w.ask a).2.drawn
  | .done a, w => by unfold World.ask; exact Nat.le_refl _
  | .ask what range k, w => by
    unfold World.ask
    dsimp only
    split
    · exact ask_drawn (k 0) w
    · exact Nat.le_trans (Nat.le_succ w.drawn) (ask_drawn (k _) { w with drawn := w.drawn + 1 })
theorem sys_drawn (w : World) (c : Sys) : w.drawn ≤ (w.sys c).2.drawn := by
  have h := ask_drawn (Kernel.perform c w.os) w
  unfold World.sys
  revert h
  generalize w.ask (Kernel.perform c w.os) = r
  rcases r with ⟨⟨r, os⟩, w'⟩
  intro h
  cases r <;> first | exact h | exact Nat.le_refl _
theorem freeze_drawn (w : World) (a : Addr) (n : Nat) : (w.freeze a n).drawn = w.drawn := by
  unfold World.freeze
  split <;> rfl
theorem viewStore_drawn {p : Program} {w w' : World} {at_ : Addr} {u : TypeId} {k : Addr} {v : Value} {atomic : Bool} {l : List Addr} (h : w.viewStore p at_ u k v atomic = .ok (w', l)) : w'.drawn = w.drawn := by
  unfold World.viewStore at h
  simp only [bind, Except.bind, pure, Except.pure] at h
  repeat' split at h
  all_goals first | (injection h with h; injection h with h1 h2; rw [← h1]) | cases h | skip
theorem farStore_drawn {p : Program} {w w' : World} {a : Addr} {v : Value} {atomic : Bool} {l : List Addr} (h : w.farStore p a v atomic = .ok (w', l)) : w'.drawn = w.drawn := by
  unfold World.farStore at h
  repeat' split at h
  all_goals first | (injection h with h; subst h; exact viewStore_drawn (by assumption)) | cases h | skip
theorem run_drawn {α : Type} (p : Program) : ∀ (x : Sem α) (w : World), w.drawn ≤ (rw_ (x.run p w)).drawn := by
  intro x
  induction x with
  | pure a => intro w; exact Nat.le_refl _
  | load m a k ih =>
    intro w
    simp only [Sem.run]
    (repeat' split) <;> first | exact ih _ _ | exact Nat.le_refl _
  | store m a v k ih =>
    intro w
    cases v <;> simp only [Sem.run] <;> first | exact Nat.le_refl _ | skip
    all_goals
      (repeat' split) <;> first | exact Nat.le_refl _ | exact ih (w.setCell a _) | (have e := farStore_drawn (by assumption); rw [← e]; exact ih _)
  | new o k ih => intro w; simp only [Sem.run]; exact ih _ { w with heap := w.heap.push o }
  | shape r k ih => intro w; simp only [Sem.run]; exact ih _ _
  | freeze a n k ih => intro w; simp only [Sem.run]; rw [← freeze_drawn w a n]; exact ih _
  | frozen a k ih => intro w; simp only [Sem.run]; exact ih _ _
  | getObj r k ih => intro w; simp only [Sem.run]; (repeat' split) <;> first | exact ih _ _ | exact Nat.le_refl _
  | setObj r o k ih =>
    intro w
    simp only [Sem.run]
    (repeat' split) <;> first | exact Nat.le_refl _ | exact ih { w with heap := w.heap.setIfInBounds r o }
  | choose q k ih =>
    intro w
    simp only [Sem.run]
    split
    · exact ih _ _
    · exact Nat.le_trans (Nat.le_succ w.drawn) (ih _ { w with drawn := w.drawn + 1 })
  | sys c k ih => intro w; simp only [Sem.run]; exact Nat.le_trans (sys_drawn w c) (ih _ _)
  | program k ih => intro w; simp only [Sem.run]; exact ih _ _
  | mark m k ih => intro w; simp only [Sem.run]; exact ih _
  | halt h => intro w; exact Nat.le_refl _
def gw : GStep → World
  | .go _ w _ | .comm _ _ _ _ w _ | .spawn _ _ w _ | .count _ w _ | .timer _ _ w _ | .alone _ _ w _ | .newcoro _ _ _ w _ | .coroswitch _ _ _ w _ | .collect _ w _ | .watch _ w _ | .ended _ w _ => w
theorem gw_after (es : Array Event) (s : GStep) : gw (GStep.after es s) = gw s := by cases s <;> rfl
theorem le_of_run {α : Type} {p : Program} {x : Sem α} {w : World} {r : Result α} (h : x.run p w = r) : w.drawn ≤ (rw_ r).drawn := h ▸ run_drawn p x w
/-- What a run leads on to. -/
theorem gw_run {α : Type} {p : Program} {x : Sem α} {w : World} {f : Result α → GStep} (hf : ∀ r, (rw_ r).drawn ≤ (gw (f r)).drawn) : w.drawn ≤ (gw (f (x.run p w))).drawn := Nat.le_trans (run_drawn p x w) (hf _)
theorem doReturn_drawn (p : Program) (main : Bool) (fr : Frame) (callers : List Frame) (dying : Option Dying) (v : Value) (w : World) : w.drawn ≤ (gw (doReturn p main fr callers dying v w)).drawn := by
  unfold doReturn
  (repeat' split) <;> exact Nat.le_refl _
theorem endThrow_drawn (fr : Frame) (m : String) (w : World) : w.drawn ≤ (gw (endThrow fr m w)).drawn := Nat.le_refl _
theorem endPrinting_drawn (p : Program) (fr : Frame) (v : Value) (w : World) : w.drawn ≤ (gw (endPrinting p fr v w)).drawn := by
  unfold endPrinting
  dsimp only
  (repeat' split) <;> exact Nat.le_refl _
theorem endFatal_drawn (p : Program) (fr : Frame) (callers : List Frame) (dying : Option Dying) (m : String) (w : World) : w.drawn ≤ (gw (endFatal p fr callers dying m w)).drawn := by
  unfold endFatal
  dsimp only
  refine gw_run (f := fun r => match r with
    | .ok (texts, tabs) w => dieOf fr (panicPieces texts ++ tabs) m true w
    | .halt (.unsupported u) w => .ended (.unsupported u "") w
    | .halt _ w => .ended (.stuck "the report of a panic" "") w) fun r => ?_
  rcases r with ⟨⟨texts, tabs⟩, w⟩ | ⟨h, w⟩
  · exact Nat.le_refl _
  · cases h <;> exact Nat.le_refl _
theorem endWith_drawn (w : World) (fd : Nat) (text : ByteArray) (o : Outcome) : w.drawn ≤ (gw (endWith w fd text o)).drawn := by
  unfold endWith
  dsimp only
  have h := sys_drawn w (.write fd text)
  revert h
  generalize w.sys (.write fd text) = r
  rcases r with ⟨r, w'⟩
  intro h
  cases r <;> dsimp only <;> (repeat' split) <;> exact h
theorem callDeferred_drawn (p : Program) (fr : Frame) (callers : List Frame) (dying : Option Dying) (d : Deferred) (w : World) : w.drawn ≤ (gw (callDeferred p fr callers dying d w)).drawn := by
  have h := run_drawn p (invoke d.target d.args) w
  unfold callDeferred
  simp only [Sem.runT_eq]
  revert h
  generalize (invoke d.target d.args).run p w = r
  intro h
  rcases r with ⟨nx, w'⟩ | ⟨hl, w'⟩
  · cases nx <;> dsimp only <;> (repeat' split) <;> (try simp only [gw_after]) <;> (try (repeat' split)) <;> first | exact h | exact Nat.le_refl _ | (injections; done) | (injections; subst_vars; exact h)
  · cases hl <;> dsimp only <;> (repeat' split) <;> (try simp only [gw_after]) <;> first | exact Nat.le_refl _ | exact h | exact Nat.le_trans h (endFatal_drawn ..) | exact Nat.le_trans h (endThrow_drawn ..) | (injections; done) | (injections; subst_vars; first | exact h | exact Nat.le_trans h (endFatal_drawn ..) | exact Nat.le_trans h (endThrow_drawn ..))
theorem unwind_drawn (p : Program) (main : Bool) (fr : Frame) (callers : List Frame) (dying : Option Dying) (w : World) : w.drawn ≤ (gw (unwind p main fr callers dying w)).drawn := by
  unfold unwind
  split
  · simp only [Sem.runT_eq, gw_after]
    rename_i block _ _ _
    have h := run_drawn p (Instr.takeDeferred block) w
    revert h
    generalize (Instr.takeDeferred block).run p w = r
    intro h
    rcases r with ⟨nx, w'⟩ | ⟨hl, w'⟩ <;> exact h
  · exact callDeferred_drawn ..
  · split
    · exact Nat.le_refl _
    · rename_i chain _
      split
      · exact Nat.le_refl _
      · split
        · exact Nat.le_refl _
        · split
          · split
            · exact Nat.le_refl _
            · have h := run_drawn p (reportChain chain false) w
              revert h
              generalize (reportChain chain false).run p w = r
              intro h
              rcases r with ⟨nx, w'⟩ | ⟨hl, w'⟩
              · exact h
              · cases hl <;> exact h
          · split
            · exact endPrinting_drawn ..
            · exact Nat.le_refl _
    · split
      · exact doReturn_drawn ..
      · rename_i fn _
        simp only [Sem.runT_eq, gw_after]
        have h := run_drawn p (results fn fr.tmps) w
        revert h
        generalize (results fn fr.tmps).run p w = r
        intro h
        rcases r with ⟨nx, w'⟩ | ⟨hl, w'⟩
        · exact Nat.le_trans h (doReturn_drawn ..)
        · cases hl <;> exact h
theorem writeOn_drawn (p : Program) (fr : Frame) (d : Dying) (f : Fatal) (w : World) : w.drawn ≤ (gw (writeOn p fr d f w)).drawn := by
  unfold writeOn
  dsimp only
  split
  · exact Nat.le_refl _
  · simp only [Sem.runT_eq]
    split <;> (rename_i heq; exact le_of_run (congrArg Prod.fst heq))
theorem die_drawn (p : Program) (fr : Frame) (d : Dying) (w : World) : w.drawn ≤ (gw (die p fr d w)).drawn := by
  unfold die
  split
  · exact writeOn_drawn ..
  · split
    · split
      · exact Nat.le_refl _
      · exact endWith_drawn ..
    · rename_i v mark rest _
      dsimp only
      split
      · exact Nat.le_refl _
      · rename_i s _
        have h := run_drawn p (withAddress s) w
        revert h
        generalize (withAddress s).run p w = r
        intro h
        rcases r with ⟨nx, w'⟩ | ⟨hl, w'⟩ <;> exact h
      · rename_i t recv name _
        simp only [Sem.runT_eq, gw_after]
        have h := run_drawn p (invoke (.fn (.method name) #[]) #[.iface t recv]) w
        revert h
        generalize (invoke (.fn (.method name) #[]) #[.iface t recv]).run p w = r
        intro h
        rcases r with ⟨nx, w'⟩ | ⟨hl, w'⟩
        · (repeat' split) <;> first | exact h | exact Nat.le_refl _ | (injections; done) | (injections; subst_vars; first | exact h | exact Nat.le_trans h (endPrinting_drawn ..))
        · (repeat' split) <;> first | exact h | exact Nat.le_refl _ | (injections; done) | (injections; subst_vars; first | exact h | exact Nat.le_trans h (endPrinting_drawn ..))
      · exact Nat.le_refl _
theorem early_drawn (p : Program) (fr : Frame) (callers : List Frame) (dying : Option Dying) (g : Nat) (w : World) : w.drawn ≤ (gw (early p fr callers dying g w)).drawn := by
  have nt : ∀ w : World, w.drawn ≤ (gw (match w.heap[g]? with
    | some (.pending c elem) => GStep.go { frame := fr, callers, status := .running, dying } { w with heap := w.heap.setIfInBounds g (.cells c elem) }
    | _ => .ended (.stuck "early: the variable does not wait" (fr.pos p)) w)).drawn := fun w => by split <;> exact Nat.le_refl _
  unfold early
  dsimp only
  split
  · exact nt w
  · split
    · exact Nat.le_refl _
    · split
      · exact nt w
      · split
        · exact nt w
        · split
          · exact Nat.le_refl _
          · exact Nat.le_refl _
          · exact Nat.le_refl _
          · exact nt w
          · split
            · exact Nat.le_refl _
            · split
              · exact nt w
              · have h := run_drawn p (choose (.early g)) w
                revert h
                generalize (choose (.early g)).run p w = r
                intro h
                rcases r with ⟨nx, w'⟩ | ⟨hl, w'⟩
                · cases nx
                  · exact Nat.le_trans h (nt w')
                  · exact h
                · exact h
theorem apply_drawn (p : Program) (listen : Bool) (fr : Frame) (callers : List Frame) (dying : Option Dying) (s : Sem Next) (w : World) : w.drawn ≤ (gw (stepG.apply p listen fr callers dying s w)).drawn := by
  have h := run_drawn p s w
  unfold stepG.apply
  dsimp only
  have e : (if listen = true then s.runT p w #[] else (s.run p w, #[])).1 = s.run p w := by split <;> simp
  generalize (if listen = true then s.runT p w #[] else (s.run p w, #[])) = re at e ⊢
  rcases re with ⟨r, es⟩
  try dsimp only at e ⊢
  subst e
  rw [gw_after]
  revert h
  generalize s.run p w = r
  intro h
  rcases r with ⟨nx, w'⟩ | ⟨hl, w'⟩
  · cases nx <;> (try dsimp only) <;> (repeat' split) <;> first | exact h | (injections; done) | (injections; subst_vars; exact h)
  · cases hl <;> (try dsimp only) <;> (repeat' split) <;> first | exact h | exact Nat.le_trans h (endFatal_drawn ..) | exact Nat.le_trans h (endThrow_drawn ..) | exact Nat.le_trans h (early_drawn ..) | (injections; done) | (injections; subst_vars; first | exact h | exact Nat.le_trans h (endFatal_drawn ..) | exact Nat.le_trans h (endThrow_drawn ..) | exact Nat.le_trans h (early_drawn ..))
theorem oper_drawn (p : Program) (listen : Bool) (fr : Frame) (callers : List Frame) (dying : Option Dying) (w : World) : w.drawn ≤ (gw (stepG.oper p listen fr callers dying w)).drawn := by
  unfold stepG.oper
  (repeat' split) <;> first | exact Nat.le_refl _ | exact apply_drawn ..
set_option maxHeartbeats 4000000 in
theorem exec_drawn (p : Program) (main : Bool) (listen : Bool) (fr : Frame) (callers : List Frame) (dying : Option Dying) (w : World) : w.drawn ≤ (gw (stepG.exec p main listen fr callers dying w)).drawn := by
  unfold stepG.exec
  dsimp only
  split
  all_goals first
    | exact Nat.le_refl _
    | exact apply_drawn ..
    | ((try unfold Option.elim)
       (try simp only [Sem.runT_eq])
       (repeat' split) <;> (try simp only [gw_after]) <;> (try (repeat' split)) <;> first
         | exact Nat.le_refl _
         | exact oper_drawn ..
         | exact apply_drawn ..
         | exact le_of_run (by assumption)
         | exact Nat.le_trans (le_of_run (by assumption)) (doReturn_drawn ..)
         | exact Nat.le_trans (le_of_run (by assumption)) (apply_drawn ..))
end Go.Proofs.YtdijkekglaimfaaGreatDoor.Dr

/- No step of the machine takes a draw back: the machine; a call. -/
namespace Go.Proofs.YtdijkekglaimfaaGreatDoor.Dr
open Go

theorem stepG_drawn (p : Program) (main : Bool) (g : Goroutine) (w : World) (listen : Bool) : w.drawn ≤ (gw (stepG p main g w listen)).drawn := by
  unfold stepG
  dsimp only
  split
  · exact die_drawn ..
  · exact exec_drawn ..
  · exact unwind_drawn ..
/-- What comes next has drawn no less. -/
def Nx (w : World) (s : Stepped) : Prop := ∀ m, s = .next m → w.drawn ≤ m.world.drawn
theorem nx_next {w : World} {m : Machine} (h : w.drawn ≤ m.world.drawn) : Nx w (.next m) := fun m' e => by cases e; exact h
theorem nx_ended (w : World) (o : Outcome) (w' : World) : Nx w (.ended o w') := fun m' e => by cases e
theorem Nx.mono {w w' : World} {s : Stepped} (h : Nx w' s) (hw : w.drawn ≤ w'.drawn) : Nx w s := fun m e => Nat.le_trans hw (h m e)
theorem look_drawn (p : Program) (gs : Array Goroutine) (rest : Rest) (w : World) : Nx w (look p gs rest w) := by
  unfold look
  split
  · dsimp only
    split
    · exact nx_ended _ _ _
    · split
      · exact nx_ended _ _ _
      · split
        · rename_i heq; exact nx_next (le_of_run heq)
        · exact nx_ended _ _ _
        · exact nx_ended _ _ _
  · exact nx_ended _ _ _
theorem serve_drawn (p : Program) (m : Machine) (k : Nat) : Nx m.world (serve p m k) := by
  unfold serve
  split
  · exact nx_ended _ _ _
  · exact nx_next (Nat.le_refl _)
  · dsimp only
    split
    · exact nx_ended _ _ _
    · exact nx_next (Nat.le_refl _)
theorem drain_drawn (w : World) (c : Nat) : (drain w c).2.drawn = w.drawn := by
  unfold drain
  split <;> rfl
theorem retime_drawn (m : Machine) (k : Nat) (t : Timer) (when period : Nat) : (retime m k t when period).2.world.drawn = m.world.drawn := by
  unfold retime
  dsimp only
  split
  · exact drain_drawn ..
  · rfl
theorem timerOp_drawn {m m' : Machine} {op : TimerOp} {v : Value} (h : timerOp m op = .ok (v, m')) : m'.world.drawn = m.world.drawn := by
  have named : ∀ {m : Machine} {var : Addr} {f : Nat → Timer → Value × Machine} {x : Machine}, timerOp.named m var f = .ok (v, m') → (∀ k t, (f k t).2.world.drawn = x.world.drawn) → m'.world.drawn = x.world.drawn := by
    intro m var f x h hf
    unfold timerOp.named at h
    split at h
    · injection h with h
      rw [← hf, h]
    · cases h
  unfold timerOp at h
  split at h
  · split at h
    · injection h with h; injection h with _ h; rw [← h]; rfl
    · split at h
      · split at h
        · cases h
        · injection h with h; injection h with _ h; rw [← h]
      · cases h
  · exact named h fun k t => retime_drawn ..
  · split at h
    · rename_i m2 ho
      refine named h fun k t => (retime_drawn ..).trans ?_
      unfold timerOp.opened at ho
      split at ho
      · split at ho
        · injection ho with ho; rw [← ho]
        · cases ho
      · injection ho with ho; rw [ho]
    · cases h
  · injection h with h; injection h with _ h; rw [← h]; rfl
theorem communicate_drawn (p : Program) (rest : Rest) (gs : Array Goroutine) (i : Nat) (g : Goroutine) (cases' : Array CommCase) (blocking : Bool) (shape : CommShape) (w : World) : Nx w (communicate p rest gs i g cases' blocking shape w).1 := by
  unfold communicate
  dsimp only
  split
  · exact nx_ended _ _ _
  · split
    · split
      · split
        · rename_i w2 heq
          refine nx_next ?_
          unfold waitingAt at heq
          split at heq
          · split at heq
            · injection heq with heq; rw [← heq]; exact Nat.le_refl _
            · cases heq
          · injection heq with heq; rw [heq]; exact Nat.le_refl _
        · exact nx_ended _ _ _
      · exact nx_next (Nat.le_refl _)
    · split
      · exact nx_ended _ _ _
      · rename_i heq
        have h := le_of_run heq
        (repeat' split) <;> first
          | exact nx_ended _ _ _
          | exact nx_next h
          | exact nx_next (Nat.le_trans h (le_of_run (by assumption)))
theorem endThrow_eq {fr : Frame} {msg : String} {w w' : World} {g : Goroutine} {es : Array Event} (h : endThrow fr msg w = .go g w' es) : w.drawn ≤ w'.drawn := by
  have e := endThrow_drawn fr msg w
  rw [h] at e
  exact e
theorem runT_drawn (p : Program) (m : Machine) (i : Nat) (listen : Bool) : Nx m.world (runT p m i listen).1 := by
  unfold runT
  dsimp only
  have h := stepG_drawn p (i == 0) (m.gs.swapAt! i { (default : Goroutine) with status := .finished }).1 m.world listen
  revert h
  generalize stepG p (i == 0) (m.gs.swapAt! i { (default : Goroutine) with status := .finished }).1 m.world listen = s
  intro h
  cases s with
  | ended o w es => exact nx_ended _ _ _
  | comm g cases' blocking shape w es => exact (communicate_drawn p m.rest _ i g cases' blocking shape w).mono h
  | go g w es => exact nx_next h
  | spawn g child w es => exact nx_next h
  | count g w es =>
    dsimp only
    split
    · exact nx_ended _ _ _
    · exact nx_next h
  | alone g on w es => exact nx_next h
  | collect g w es => exact Nx.mono (look_drawn _ _ _ _) h
  | watch g w es => exact nx_next h
  | newcoro g c d w es => exact nx_next h
  | coroswitch g c exit w es =>
    dsimp only
    (repeat' split) <;> first
      | exact nx_ended _ _ _
      | exact nx_next h
      | (rename_i heq; exact nx_next (Nat.le_trans h (endThrow_eq heq)))
  | timer g op w es =>
    dsimp only
    split
    · rename_i heq
      exact nx_next (by
        show m.world.drawn ≤ _
        rw [timerOp_drawn heq]; exact h)
    · split
      · rename_i heq
        exact nx_next (Nat.le_trans h (endThrow_eq heq))
      · exact nx_ended _ _ _
    · exact nx_ended _ _ _
    · exact nx_ended _ _ _
def Mv (w : World) : Move → Prop
  | .goroutine m _ => w.drawn ≤ m.world.drawn
  | .machine s _ => Nx w s
theorem Mv.mono {w w' : World} {x : Move} (h : Mv w' x) (hw : w.drawn ≤ w'.drawn) : Mv w x := by
  cases x with
  | goroutine m i => exact Nat.le_trans hw h
  | machine s ops => exact Nx.mono h hw
theorem endWith_next {w w' : World} {g : Goroutine} {fd : Nat} {text : ByteArray} {o : Outcome} (es : Array Event) : endWith w fd text o ≠ .go g w' es := by
  unfold endWith
  dsimp only
  (repeat' split) <;> exact fun h => by cases h
theorem askOn_drawn (p : Program) (m : Machine) : Mv m.world (askOn p m) := by
  have pick : ∀ (rs : List Nat) (m : Machine), Mv m.world (match (choose (.sched rs.length)).run p m.world with
      | .halt _ w => Move.machine (.ended (.stuck "sched" "") w)
      | .ok k world =>
        if rs.length ≤ 1 then .goroutine { m with world } (rs.getD k 0) else
        match (choose (.extern "sched.slice" 65536)).run p world with
        | .halt _ w => .machine (.ended (.stuck "sched.slice" "") w)
        | .ok n world => .goroutine { m with world, rest := { m.rest with slice := if n = 0 then none else some (rs.getD k 0, n) } } (rs.getD k 0)) := fun rs m => by
    split
    · exact nx_ended _ _ _
    · rename_i h1
      split
      · exact le_of_run h1
      · split
        · exact nx_ended _ _ _
        · rename_i h2
          exact Nat.le_trans (le_of_run h1) (le_of_run h2)
  unfold askOn
  dsimp only
  split
  · exact nx_ended _ _ _
  · rename_i h1
    have h := le_of_run h1
    split
    · exact Nx.mono (serve_drawn p _ _) h
    · split
      · split
        · exact nx_next h
        · split
          · exact nx_next h
          · split
            · exact nx_ended _ _ _
            · exact nx_ended _ _ _
      · split
        · exact Mv.mono (pick _ { m with world := _ }) h
        · split
          · exact nx_ended _ _ _
          · rename_i h2
            exact Mv.mono (pick _ { m with world := _ }) (Nat.le_trans h (le_of_run h2))
          · rename_i h2
            exact nx_next (Nat.le_trans h (le_of_run h2))
          · rename_i h2
            exact Mv.mono (pick _ (Machine.advanceTo { m with world := _ } _)) (Nat.le_trans h (le_of_run h2))
theorem ask_drawn' (p : Program) (m : Machine) : Mv m.world (ask p m) := by
  unfold ask
  split
  · split
    · exact nx_ended _ _ _
    · rename_i h1
      have h := le_of_run h1
      have hl := look_drawn p m.gs m.rest
      split
      · rename_i h2
        exact Mv.mono (askOn_drawn p _) (Nat.le_trans h (hl _ _ h2))
      · rename_i hne
        intro m' e
        exact absurd e (hne m')
    · rename_i h1
      exact Mv.mono (askOn_drawn p { m with world := _ }) (le_of_run h1)
  · exact askOn_drawn p m
theorem move_drawn (p : Program) (m : Machine) : Mv m.world (move p m) := by
  unfold move
  split
  · split
    · exact Nat.le_refl _
    · exact nx_ended _ _ _
  · split
    · split
      · exact Nat.le_refl _
      · exact ask_drawn' p { m with rest := _ }
    · exact ask_drawn' p m
theorem step_drawn {p : Program} {m m' : Machine} (h : step p m = .next m') : m.world.drawn ≤ m'.world.drawn := by
  unfold step stepT at h
  have hm := move_drawn p m
  revert h hm
  generalize move p m = x
  intro h hm
  cases x with
  | goroutine m1 i => exact Nat.le_trans hm (runT_drawn p m1 i _ m' h)
  | machine s ops => exact hm m' h
theorem steps_drawn {p : Program} {m m' : Machine} (h : Steps p m m') : m.world.drawn ≤ m'.world.drawn := by
  obtain ⟨n, h⟩ := h
  induction n generalizing m with
  | zero => injection h with h; rw [h]; exact Nat.le_refl _
  | succ n ih =>
    unfold runN at h
    split at h
    · rename_i m1 h1
      exact Nat.le_trans (step_drawn h1) (ih h)
    · rename_i hne
      exact absurd h (hne m')
/-- **A call takes no draw back.** -/
theorem calls_drawn {P : Program} {f : FuncId} {args : Array Value} {w : World} {R : Ending → World → Prop} (hr : ∀ e w', R e w' → e ≠ .outgrown) (h : Calls P f args w R) : Calls P f args w fun e w' => R e w' ∧ w.drawn ≤ w'.drawn := fun cs => by
  obtain ⟨e, w', fr, h1, h2, h3, h4⟩ := h cs
  refine ⟨e, w', fr, ⟨h1, ?_⟩, h2, h3, h4⟩
  cases e with
  | outgrown => exact absurd rfl (hr _ _ h1)
  | returned v => exact steps_drawn (m := lone _ cs w) (m' := lone fr cs w') h2
  | panicked c => exact steps_drawn (m := lone _ cs w) (m' := lone fr cs w') h2
end Go.Proofs.YtdijkekglaimfaaGreatDoor.Dr

/- slices.Collect, slices.Values; sorted by the bounds below. -/
namespace Go.Proofs.YtdijkekglaimfaaGreatDoor.Sq
open Go.RowKit Go.Shelf Rc Go.Sort Ver

theorem collect_any (g : FuncId) (lb : Array Value) (l : List S2) (w : World) (hy : Yields 6 g lb l w) (eg : ∀ args w, (callFunc g args).run Tryz.prog w = .ok (.enter g args) w) (hl : l.length ≤ 99999) :
    Calls Tryz.prog 63 #[.func (.func g) #[] lb] w (CollD l w) := by
  have H := Lib.hid (callsIn_wide.1 (appendSeq_in g lb l w hy eg hl))
  clear hy eg
  go_enter Tryz.func63, Tryz.ntmps63
  go_wp2_with fail
  refine H.out.mono ?_
  rintro e w1 ⟨v, rfl, hv, hb⟩
  have HV := Lib.hid hv
  clear hv
  go_wp2
  go_ret
  exact ⟨v, rfl, HV.out, hb⟩
abbrev valsV (X : Nat) : Value := .func (.func 62) #[] #[.pointer (some ⟨X, 0, none⟩)]
theorem values_any (A : Option Addr) (L c : Nat) (w : World) :
    Calls Tryz.prog 42 #[.slice A L c] w fun e w' => e = .returned (valsV w.heap.size) ∧ w' = w.alloc (.cells #[.slice A L c] 23) := by
  go_enter Tryz.func42, Tryz.ntmps42
  go_wp2
  go_ret
  exact ⟨rfl, rfl⟩
theorem values_enters : ∀ args w, (callFunc 62 args).run Tryz.prog w = .ok (.enter 62 args) w := enters_of Tryz.func62 (by kernel_rfl) rfl
/-- The values of a row, after the call that made them. -/
theorem values_seq (n : Nat) (hn : 1 ≤ n) {w : World} {v : Value} {l : List S2} (h : RowD setK w v l) : Yields n 62 #[.pointer (some ⟨w.heap.size, 0, none⟩)] l (w.alloc (.cells #[v] 23)) :=
  values_yields n hn w.heap.size v l _ (cells_get (heap_alloc_new w _) 0 rfl) (h.below ((Below.refl _ _).alloc (Nat.le_refl _) _) (Nat.le_refl _))

/-! Sorted. -/
def encL (x : LoT) : List Value := [.string x.1.1, .string x.1.2]
theorem lift_lo : ∀ {l : List S2}, spanSp.Oks l → ∃ d : List LoT, d.map Subtype.val = l
  | [], _ => ⟨[], rfl⟩
  | x :: r, h => by
    obtain ⟨d, hd⟩ := lift_lo (l := r) fun y hy => h y (by simp [hy])
    exact ⟨⟨x, (smay_bounds (h x (by simp))).1⟩ :: d, by simp [hd]⟩
theorem byLow_lays (blk off size : Nat) (w : World) : CmpLays Tryz.prog 44 #[] encL 2 byLowC blk off size w := by
  intro m os dk hs x y
  refine (Dr.calls_drawn (fun e w' h => by rw [h.1]; exact fun h => by cases h) (byLow_is x.1.1 x.1.2 y.1.1 y.1.2 x.2 y.2 (byLowC x y) rfl _)).mono ?_
  rintro e w' ⟨⟨rfl, hb⟩, hd⟩
  refine ⟨rfl, ?_⟩
  obtain ⟨⟨d, os'⟩, rfl⟩ := regrown_of_below hb
  have hd' : (sortWorldK encL 2 w blk off m dk os).drawn ≤ d := hd
  refine ⟨d - (sortWorldK encL 2 w blk off m dk os).drawn, os', ?_⟩
  have e : (sortWorldK encL 2 w blk off m dk os).drawn + (d - (sortWorldK encL 2 w blk off m dk os).drawn) = d := by omega
  show grow (redrawn (sortWorldK encL 2 w blk off m dk os) d) os' = grow { sortWorldK encL 2 w blk off m dk os with drawn := (sortWorldK encL 2 w blk off m dk os).drawn + (d - (sortWorldK encL 2 w blk off m dk os).drawn) } os'
  rw [e]; rfl
theorem sortWorldK_below {base blk off m : Nat} {w : World} {dk : Array LoT} {os : Array Obj} (hb : base ≤ blk) (hw : base ≤ w.heap.size) : RowKit.Below base w (sortWorldK encL 2 w blk off m dk os) := by
  refine ⟨rfl, rfl, rfl, by simp [sortWorldK, putRowK, putRow, mapBlock, grow], fun k hk => ?_⟩
  unfold sortWorldK
  rw [heap_grow_old _ _ (by simp [putRowK, putRow, mapBlock]; omega)]
  have : k ≠ blk := by omega
  simp [putRowK, putRow, mapBlock, Array.getElem?_modify, Ne.symm this]
def SortD (base : Nat) (v : Value) (l : List S2) (w : World) (e : Ending) (w' : World) : Prop := e = .returned (.tuple #[]) ∧ ∃ s : List S2, s.Perm l ∧ (s.Pairwise fun a b => spanSp.low a b = true) ∧ RowD setK w' v s ∧ RowKit.Below base w w'
theorem sort_is {w0 w : World} {base : Nat} {v : Value} {l : List S2} (h : OwnK setK 31 w0 w base v l) (hb0 : RowKit.Below w0.heap.size w0 w) (ho : spanSp.Oks l) (hl : l.length ≤ 99999) (hbase : base ≤ w.heap.size) :
    Calls Tryz.prog 64 #[v, .func (.func 44) #[] #[]] w (SortD base v l w) := by
  obtain ⟨A, L, c, rfl⟩ := h.sl
  have hL := h.len
  have hrow := h.row hb0
  have hcap := hrow.cap
  by_cases hne : l = []
  · subst hne
    have hL : L = 0 := hL
    subst hL
    refine (AnyF.slices_SortFunc_none Tryz.sortK A c (.func (.func 44) #[] #[]) w).mono ?_
    rintro e w' ⟨rfl, rfl⟩
    exact ⟨rfl, [], .refl _, .nil, hrow, RowKit.Below.refl _ _⟩
  · obtain ⟨g, rfl, hg, hLc, hc⟩ := h.at_ne hne
    obtain ⟨d, rfl⟩ := lift_lo ho
    have hdl : L = d.length := by rw [hL, List.length_map]
    subst hdl
    have hgs := (h.lt g rfl).2
    have hH : HoldsK encL 2 w g 0 d.toArray := fun t ht => by
      rw [size_flatK] at ht
      have hj : t / 2 < d.length := by simp at ht; omega
      obtain ⟨b, off, e, _, _, _, c0, c1⟩ := spz_at hrow hj
      cases e
      refine ⟨?_, ownK_free h _⟩
      rw [get_flatK _ _ _ _ ht]
      have hn : Rc.nth (d.map Subtype.val) (t / 2) = (d.toArray[t / 2]!).1 := by
        unfold Rc.nth
        simp [hj]
      rw [hn] at c0 c1
      rcases Nat.mod_two_eq_zero_or_one t with hm | hm
      · have e : 0 + t = 0 + t / 2 * 2 := by omega
        rw [e, c0, hm]; rfl
      · have e : 0 + t = 0 + t / 2 * 2 + 1 := by omega
        rw [e, c1, hm]; rfl
    have hsort := AnyQ.slices_SortFunc Tryz.sortK 2 Tryz.isAgg31 Tryz.sizeOf31 encL (fun _ => rfl) (fun x v hv => by
      simp [encL] at hv
      rcases hv with rfl | rfl <;> rfl) byLowC byLow_swo 44 #[] g 0 c d.toArray w (enters_of Tryz.func44 (by kernel_rfl) rfl) (byLow_lays g 0 _ w) hH hgs (by simp; omega)
    rw [show d.toArray.size = d.length by simp] at hsort
    refine hsort.mono fun e w' ⟨he, d', n, os, hp, hs, hw⟩ => ⟨he, d'.toList.map Subtype.val, ?_⟩
    have hsize : d'.size = d.length := by simpa using hp.1
    have hperm : d'.toList.Perm d := by
      have := hp.2.2
      rw [← hsize, Array.extract_size] at this
      simpa [hsize] using this
    have hH2 : HoldsK encL 2 w' g 0 d' := by rw [hw]; exact holdsK_sortWorldK_c encL 2 w g 0 d.toArray d' n os hH hgs (by simpa using hsize)
    have hn : ∀ i, i < d'.size → Rc.nth (d'.toList.map Subtype.val) i = (d'[i]!).1 := fun i hi => by unfold Rc.nth; simp [hi]
    have hsz : Szs (d.map Subtype.val) := (ownK_raw h).2
    refine ⟨hperm.map Subtype.val, List.pairwise_iff_getElem.2 fun i j hi hj hij => ?_, ⟨some ⟨g, 0, none⟩, c, by simp [hsize], by simp [hsize]; exact hLc, by unfold maxLen; omega, fun _ => ⟨g, 0, rfl, by rw [hw]; exact Nat.lt_of_lt_of_le hgs (size_sortWorldK_c encL 2 w g 0 n d' os), fun j hj => ?_⟩⟩, by rw [hw]; exact sortWorldK_below hg hbase⟩
    · simp at hi hj
      have hlt := hs i j (by omega) hij (by omega)
      have := not_lt hlt
      simp only [List.getElem_map, Array.getElem_toList]
      rw [getElem!_pos d' i hi, getElem!_pos d' j hj] at this
      exact this
    · have hj' : j < d'.size := by simpa using hj
      refine ⟨[.string (Rc.nth (d'.toList.map Subtype.val) j).1, .string (Rc.nth (d'.toList.map Subtype.val) j).2], ⟨rfl, hsz _ ((hperm.map Subtype.val).mem_iff.1 (Rc.nth_mem hj))⟩, fun i hi => ?_⟩
      have hi : i < 2 := hi
      have := (HoldsK.cell hH2 hj' hi).1
      rw [hn j hj']
      rw [show setK.n = 2 from rfl, this]
      match i, hi with
      | 0, _ => rfl
      | 1, _ => rfl
end Go.Proofs.YtdijkekglaimfaaGreatDoor.Sq
