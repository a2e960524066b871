/- All that the statement WordTells wants, together. -/
import Derived.Test.YtiiickinlklelaaDoorRas
import Derived.Test.YtiiickinlklelaaDoorLd
